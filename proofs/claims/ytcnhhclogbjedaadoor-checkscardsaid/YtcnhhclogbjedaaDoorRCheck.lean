/- The document's Check, walked; and the law Checks. Our own text. -/
import Derived.Test.YtcnhhclogbjedaaDoorRWrong
import Derived.Test.YtcnhhclogbjedaaDoorSame3
import Derived.Test.YtcnhhclogbjedaaDoorRead
namespace Go.Proofs.YtcnhhclogbjedaaDoor
open Go.RowKit

set_option maxRecDepth 100000 in
set_option maxHeartbeats 1600000 in
theorem rcheck_any (s : ByteArray) (w : World) (_hs : s.size ≤ maxLen) :
    Calls Tryd.prog 7 #[.string s] w fun e w' => e = .returned (.tuple #[.int .i64 ((rCheck s).1 : Nat), .int .i64 (rCheck s).2]) ∧ Below w.heap.size w w' := by
  by_cases h : 120 < s.size
  · have hr : rCheck s = (1, 0) := by unfold rCheck; rw [if_pos h]
    rw [hr]
    have h' : (120 : Int) < s.size := by omega
    clear hr
    go_enter Tryd.func7, Tryd.ntmps7
    go_wp2
    go_ret2
    exact ⟨rfl, Below.refl _ _⟩
  · have hle : s.size ≤ 120 := by omega
    have h' : ¬ (120 : Int) < s.size := by omega
    obtain ⟨P, hP⟩ : ∃ P, rCheck s = P := ⟨_, rfl⟩
    obtain ⟨r, q', hq⟩ : ∃ r q', qRead s = (r, q') := ⟨_, _, rfl⟩
    have HN : Aside (∀ p, r = none → q' = .bad p → P = (2, (p : Int))) := fun p h1 h2 => by
      subst h1 h2; rw [← hP]; unfold rCheck; rw [if_neg h, hq]; rfl
    have HS : Aside (∀ x, r = some x → P = wrongP x.1 x.2) := fun x h1 => by
      subst h1; rw [← hP]; unfold rCheck; rw [if_neg h, hq]
    rw [hP]
    clear hP h
    go_enter Tryd.func7, Tryd.ntmps7
    go_wp2_with fail
    refine (rread_any hle hq).mono ?_
    rintro e w1 ⟨⟨ao, aor, cap, capr, vs, rs, bad, rfl, hv, hrr, hOv, hOr, h3, h8, hfin⟩, hb1⟩
    rcases hfin with ⟨p, h1, h2, rfl⟩ | ⟨h1, rfl⟩
    · have hP := HN.out p h1 h2
      subst hP
      have h0 : ¬ ((p : Int) < 0) := by omega
      have h0' : (0 : Int) ≤ (p : Int) := by omega
      clear hv hrr hOv hOr hq HN HS
      go_wp2
      go_ret2
      exact ⟨rfl, hb1.alloc hb1.size _⟩
    · have hP := HS.out _ h1
      subst hP
      clear HN HS hq
      have hl : Below w1.heap.size w1 (w1.alloc (Obj.cells #[Value.slice ao vs.length cap, Value.slice aor rs.length capr] 51)) := (Below.refl _ _).alloc (Nat.le_refl _) _
      have HV : Aside _ := hl.ownsRow' hv
      have HRR : Aside _ := hl.ownsRow' hrr
      have HOV : Aside (∀ v ∈ vs, V3.Ok (w1.alloc (Obj.cells #[Value.slice ao vs.length cap, Value.slice aor rs.length capr] 51)) w.heap.size v) := fun v h => ⟨hl.ownsRow' (hOv v h).1, (hOv v h).2⟩
      have HOR : Aside (∀ x ∈ rs, R2.Ok (w1.alloc (Obj.cells #[Value.slice ao vs.length cap, Value.slice aor rs.length capr] 51)) w.heap.size x) := fun x h => ⟨hl.ownsRow' (hOr x h).1, hl.ownsRow' (hOr x h).2⟩
      have HB : Aside (Below w.heap.size w w1) := hb1
      have hsz := hb1.size
      have HL : Aside (Below w1.heap.size w1 (w1.alloc (Obj.cells #[Value.slice ao vs.length cap, Value.slice aor rs.length capr] 51))) := hl
      clear hv hrr hOv hOr hb1 hl
      go_wp2_with fail
      refine (wrong_any ao aor cap capr w.heap.size vs rs (by simp; omega) h3 h8 HV.out HRR.out HOV.out HOR.out).mono ?_
      rintro e w2 ⟨rfl, hb2⟩
      go_wp2
      go_ret2
      exact ⟨rfl, (HB.out.trans (HL.out.mono hsz)).trans (hb2.mono (by simp; omega))⟩

set_option maxRecDepth 100000 in
set_option maxHeartbeats 1600000 in
theorem num_any (e : Int) (w : World) : Calls Tryd.prog 8 #[.int .i64 e] w fun r w' => r = .returned (.int .i64 e) ∧ Below w.heap.size w w' := by
  go_enter Tryd.func8, Tryd.ntmps8
  go_wp2
  go_ret
  exact ⟨rfl, Below.refl _ _⟩

set_option maxRecDepth 100000 in
set_option maxHeartbeats 1600000 in
theorem checks_any (s : ByteArray) (w : World) (hs : s.size ≤ maxLen) :
    Calls Tryd.prog 3 #[.string s] w fun e w' => e = .returned (.bool true) ∧ Below w.heap.size w w' := by
  have HC := check_any s w hs
  have hE := check_same s
  obtain ⟨a, b, hab⟩ : ∃ a b, pCheck s = (a, b) := ⟨_, _, rfl⟩
  rw [hab] at HC hE
  have HR : ∀ w', Calls Tryd.prog 7 #[.string s] w' fun e w'' => e = .returned (.tuple #[.int .i64 a, .int .i64 b]) ∧ Below w'.heap.size w' w'' := fun w' => by
    have := rcheck_any s w' hs
    rw [← hE] at this
    exact this
  clear hab hE
  go_enter Tryd.func3, Tryd.ntmps3
  go_wp2_with fail
  refine HC.mono ?_
  rintro e w1 ⟨rfl, hb1⟩
  go_wp2_with fail
  refine (HR w1).mono ?_
  rintro e w2 ⟨rfl, hb2⟩
  go_wp2_with fail
  refine (num_any a w2).mono ?_
  rintro e w3 ⟨rfl, hb3⟩
  go_wp2
  go_ret
  exact ⟨rfl, (hb1.trans (hb2.mono hb1.size)).trans (hb3.mono (Nat.le_trans hb1.size hb2.size))⟩
end Go.Proofs.YtcnhhclogbjedaaDoor
