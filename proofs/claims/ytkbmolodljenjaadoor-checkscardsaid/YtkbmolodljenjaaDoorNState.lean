/- The reference: whether a text is a state's. Our own text. -/
import Derived.Test.YtkbmolodljenjaaDoorNNexts
import Derived.Test.YtkbmolodljenjaaDoorMState
namespace Go.Proofs.YtkbmolodljenjaaDoor
open Go.RowKit

/-- The same, of the reference's variables. -/
def okT (s : ByteArray) (tops : List Nat) : Prop := s.size = tops.length ∧ ∀ k (h : k < s.size) (h' : k < tops.length), 48 ≤ s[k].toNat ∧ s[k].toNat ≤ 48 + tops[k]

section
variable {w : World}
set_option maxRecDepth 100000 in
set_option maxHeartbeats 1600000 in
theorem rstate_any (ao aor : Option Addr) (cap nr capr base : Nat) (vs : List V3) (s : ByteArray) (h3 : vs.length ≤ 3) (hs : s.size ≤ maxLen)
    (hv : w.ownsRow base 97 3 (.slice ao vs.length cap) vs.length (vs.flatMap V3.cells)) :
    Calls Tryd.prog 32 #[.agg #[.slice ao vs.length cap, .slice aor nr capr], .string s] w fun e w' => (∃ (y : Value) (b : Bool), e = .returned (.tuple #[y, .bool b]) ∧ (b = true ↔ okT s (vs.map V3.top))) ∧ Below w.heap.size w w' := by
  have hA := heap_alloc_new w (.cells #[.slice ao vs.length cap, .slice aor nr capr] 53)
  have hBel : Below w.heap.size w (w.alloc (.cells #[.slice ao vs.length cap, .slice aor nr capr] 53)) := (Below.refl _ _).alloc (Nat.le_refl _) _
  have hsw : (w.alloc (.cells #[.slice ao vs.length cap, .slice aor nr capr] 53)).heap.size = w.heap.size + 1 := by simp
  obtain ⟨n0, n1, nf⟩ := cell2 hA
  have HV : Put (w.ownsRow base 97 3 (.slice ao vs.length cap) vs.length (vs.flatMap V3.cells)) := ⟨hv⟩
  obtain ⟨i0, hi, hz0, hz1, hz2⟩ := info_parts Tryd.info3
  clear hv hA nf n1
  by_cases hsz : s.size = vs.length
  · have h1 : ((s.size : Int) == (vs.length : Int)) = true := by simp; omega
    go_enter Tryd.func32, Tryd.ntmps32
    go_wp2_with fail
    generalize w.alloc (.cells #[.slice ao vs.length cap, .slice aor nr capr] 53) = w1 at *
    go_loopg [6, 7] s.size (fun gk lv iv wr => ∃ (i : Nat), iv = .int .i64 i ∧ i + gk = s.size ∧ (∃ xs : List Value, xs.length = i ∧ wr.ownsRow w1.heap.size 3 1 lv i xs) ∧ Below w1.heap.size w1 wr ∧ ∀ k (h : k < s.size) (h' : k < (vs.map V3.top).length), k < i → 48 ≤ s[k].toNat ∧ s[k].toNat ≤ 48 + (vs.map V3.top)[k])
    case atStart => exact ⟨0, rfl, by omega, ⟨[], rfl, World.ownsRow_nil _ _ _ _⟩, Below.refl _ _, fun k _ _ h => by omega⟩
    case round =>
      obtain ⟨i, rfl, hik, ⟨xs, hxl, hrow⟩, hBr, hpre⟩ := hrel
      have HPRE : Put (_) := ⟨hpre⟩
      clear hpre
      have c0 := (hBr.cell (p := ⟨w.heap.size, 0, none⟩) (by show w.heap.size < w1.heap.size; omega)).trans n0
      have hsr := hBr.size
      have hBw : Below w.heap.size w wr := hBel.trans (hBr.mono (by omega))
      by_cases hlt : i < s.size
      · have hlt' : (i : Int) < (s.size : Int) := by omega
        have i0' : (0 : Int) ≤ (i : Int) := by omega
        have hiv : i < vs.length := by omega
        have hiv' : (i : Int) < (vs.length : Int) := by omega
        obtain ⟨g', rfl⟩ : ∃ g', gk = g' + 1 := ⟨gk - 1, by omega⟩
        obtain ⟨gv, rfl, hgv1, hgv2, hgv3, hcv⟩ := row_at V3.len HV.out (by omega)
        have v0 := (hBw.cell (p := ⟨gv, i * 3 + 0, none⟩) hgv2).trans (hcv i hiv 0 (by omega))
        simp only [V3.cells, V3.vf, List.getElem?_cons_zero, Nat.add_zero] at v0
        obtain ⟨b, hb⟩ : ∃ b : Nat, s[i].toNat = b := ⟨_, rfl⟩
        have hb255 : b < 256 := by rw [← hb]; exact s[i].toNat_lt
        have HTP : Put (∀ h : i < (vs.map V3.top).length, (vs.map V3.top)[i] = vs[i].top) := ⟨fun h => by simp⟩
        generalize vs[i].top = tp at v0 HTP
        clear hcv
        by_cases hok : 48 ≤ b ∧ b ≤ 48 + tp
        · have k1 : ¬ ((b : Int) < 48) := by omega
          have k2 : ¬ ((tp : Int) < (b : Int) - 48) := by omega
          have hd1 : decide ((b : Int) < 48) = false := by simp; omega
          have hd2 : decide ((tp : Int) < (b : Int) - 48) = false := by simp; omega
          have hw64 : IntKind.i64.wrap ((b : Int) - 48) = (b : Int) - 48 := by simp [IntKind.wrap, IntKind.signed, IntKind.bits]; omega
          have hw8 : IntKind.u8.wrap ((b : Int) - 48) = (b : Int) - 48 := by simp [IntKind.wrap, IntKind.signed, IntKind.bits]; omega
          go_wp2_with fail
          go_quiet (fail)
          have hoN : (wr.drewN nq).ownsRow w1.heap.size 3 1 u6 i xs := hrow
          have hBN : Below w1.heap.size w1 (wr.drewN nq) := below_drewN hBr nq
          generalize wr.drewN nq = wz at *
          have hsz' := hBN.size
          clear v0 c0 hBr hBw hrow
          go_wp2_with (at_builtin; refine wpList_append_own _ rfl _ _ 68 rfl w1.heap.size 3 i0 _ 1 8 Tryd.underlying68 hi hz0 hz1 hz2 rfl Nat.one_pos u6 i xs rfl (hoN.alloc _) ⟨wz.heap.size, 0, none⟩ 1 1 [.int .i64 ((b : Int) - 48)] rfl rfl (cell_one_new _ _ _) (by simp [Value.oneCell']) (by omega) (by omega) (by simp; omega) ?_)
          intro v' w5 hown' hgrow _
          obtain ⟨g5, cap5, rfl⟩ := ownsRow_succ hown'
          have hB5 : Below w1.heap.size w1 w5 := (hBN.alloc hsz' _).grown hgrow (by simp; omega) (fun k e => (hoN.lt k e).1)
          have HR5 : Put (_) := ⟨hown'⟩
          clear hown' hgrow hoN hBN
          go_wp2
          go_roundg g'
          case measure => exact Nat.lt_succ_self _
          case rel =>
            refine ⟨i + 1, by go_num, by omega, ⟨xs ++ [.int .i64 ((b : Int) - 48)], by simp [hxl], by rw [hsw]; exact HR5.out⟩, hB5, fun k h h' hk => ?_⟩
            by_cases e : k = i
            · subst e; rw [hb, HTP.out h']; exact hok
            · exact HPRE.out k h h' (by omega)
        · have HNO : Put (¬ okT s (vs.map V3.top)) := ⟨fun h => hok (by have := h.2 i hlt (by simpa using hiv); rw [hb, HTP.out] at this; exact this)⟩
          have hF : (false = true ↔ okT s (vs.map V3.top)) := by simpa using HNO.out
          have HF : Put (_) := ⟨hF⟩
          clear hF
          by_cases hb48 : b < 48
          · have k1 : ((b : Int) < 48) := by omega
            have hd1 : decide ((b : Int) < 48) = true := by simp; omega
            go_wp2_with fail
            go_quiet (fail)
            go_wp2
            go_ret2
            exact ⟨⟨_, false, rfl, HF.out⟩, below_drewN hBw _⟩
          · have k1 : ¬ ((b : Int) < 48) := by omega
            have k2 : ((tp : Int) < (b : Int) - 48) := by omega
            have hd1 : decide ((b : Int) < 48) = false := by simp; omega
            have hd2 : decide ((tp : Int) < (b : Int) - 48) = true := by simp; omega
            have hw64 : IntKind.i64.wrap ((b : Int) - 48) = (b : Int) - 48 := by simp [IntKind.wrap, IntKind.signed, IntKind.bits]; omega
            have hw8 : IntKind.u8.wrap ((b : Int) - 48) = (b : Int) - 48 := by simp [IntKind.wrap, IntKind.signed, IntKind.bits]; omega
            go_wp2_with fail
            go_quiet (fail)
            go_wp2
            go_ret2
            exact ⟨⟨_, false, rfl, HF.out⟩, below_drewN hBw _⟩
      · obtain rfl : i = s.size := by omega
        have hlt' : ¬ ((s.size : Int) < (s.size : Int)) := by omega
        have HF : Put (true = true ↔ okT s (vs.map V3.top)) := ⟨⟨fun _ => ⟨by simpa using hsz, fun k h h' => HPRE.out k h h' h⟩, fun _ => rfl⟩⟩
        obtain ⟨aol, capl, rfl⟩ := owned_slice' hrow
        go_wp2
        go_ret2
        first
          | exact ⟨⟨_, true, rfl, HF.out⟩, hBw⟩
          | exact ⟨⟨_, .inr ⟨rfl, by simpa using HF.out⟩⟩, hBw⟩
  · have h1 : ((s.size : Int) == (vs.length : Int)) = false := by simp; omega
    go_enter Tryd.func32, Tryd.ntmps32
    go_wp2
    go_ret2
    refine ⟨⟨_, false, rfl, ?_⟩, hBel⟩
    simp only [Bool.false_eq_true, false_iff]
    exact fun h => hsz (by simpa using h.1)
end
end Go.Proofs.YtkbmolodljenjaaDoor
