/- The code: readModel and Check. Our own text. -/
import Derived.Test.YtkbmolodljenjaaDoorKModel
namespace Go.Proofs.YtkbmolodljenjaaDoor
open Go.RowKit Go.Lib

def T0 : T := ⟨0, 0, 0, 0, 0, 0⟩
def X0 : Junk := ⟨0, 0, 0, 0, 0, 0, .slice none 0 0, .slice none 0 0, .slice none 0 0⟩
def pCheck (s : ByteArray) : Nat × Nat := if 120 < s.size then (1, 0) else pRun s (s.size + 1) 1 T0

theorem St.zero (s : ByteArray) (w : World) : St (w.heap.size + 1) w.heap.size (w.heap.size + 2) s [] T0 X0 [] [] [] w ((w.alloc (.cells (mblk T0 X0) 84)).alloc (.cells (rblk s w.heap.size T0 [.slice none 0 0, .slice none 0 0, .int .u8 0]) 91)) := by
  have hm := (Below.heap_alloc (w.alloc (.cells (mblk T0 X0) 84)) (.cells (rblk s w.heap.size T0 [.slice none 0 0, .slice none 0 0, .int .u8 0]) 91) w.heap.size (by simp)).trans (heap_alloc_new w (.cells (mblk T0 X0) 84))
  have hr := heap_alloc_new (w.alloc (.cells (mblk T0 X0) 84)) (.cells (rblk s w.heap.size T0 [.slice none 0 0, .slice none 0 0, .int .u8 0]) 91)
  rw [World.size_alloc] at hr
  refine ⟨rfl, by simp, by omega, by simp, Nat.le_refl _, Nat.le_refl _, fun d hd => (by cases hd), ⟨⟨hr, ⟨_, _, hm, rfl⟩, by omega⟩, hm⟩, ⟨⟨[], World.ownsRow_nil _ _ _ _, All2.nil⟩, ⟨[], World.ownsRow_nil _ _ _ _, All2.nil⟩, ⟨[], World.ownsRow_nil _ _ _ _, All2.nil⟩⟩, ((Below.refl _ _).alloc (Nat.le_refl _) _).alloc (by simp) _, ⟨fun k hk => absurd hk (Nat.not_lt_zero _), fun k _ h3 => ?_, fun e he => (by cases he)⟩, rfl⟩
  have : k = 0 ∨ k = 1 ∨ k = 2 := by omega
  rcases this with rfl | rfl | rfl <;> exact ⟨rfl, rfl⟩

/-- How readModel ends. -/
def RMPost (s : ByteArray) (P : Nat → T → List V2 → List (Tm × Tm) → List Chg → List RA → Prop) (w : World) (e : Ending) (w' : World) : Prop :=
  Below w.heap.size w w' ∧
  (((pCheck s).1 ≠ 0 ∧ ∃ ao, e = .returned (.tuple #[.pointer ao, .int .i64 (pCheck s).1, .int .i64 (pCheck s).2])) ∨
   ((pCheck s).1 = 0 ∧ ∃ (B M N : Nat) (t : T) (x : Junk) (vs : List V2) (rl : List RA), e = .returned (.tuple #[.pointer (some ⟨M, 0, none⟩), .int .i64 0, .int .i64 (pCheck s).2]) ∧ St B M N s vs t x [] [] rl w w' ∧ P 2 t vs [] [] rl ∧ t.at_ = s.size ∧ w.heap.size ≤ M))

set_option maxRecDepth 100000 in
set_option maxHeartbeats 1600000 in
theorem readModel_any {P : Nat → T → List V2 → List (Tm × Tm) → List Chg → List RA → Prop} (s : ByteArray) (hG : s.size ≤ 120 → Ghost s P) (hP : s.size ≤ 120 → P 1 T0 [] [] [] []) (w : World) (hsz : s.size ≤ maxLen) :
    Calls Tryd.prog 23 #[.string s] w (RMPost s P w) := by
  unfold maxLen at hsz
  by_cases hl : 120 < s.size
  · have hc : pCheck s = (1, 0) := by unfold pCheck; rw [if_pos hl]
    have HC : Put (_ = _) := ⟨hc⟩
    have hl' : (120 : Int) < (s.size : Int) := by omega
    clear hG hP hc
    go_enter Tryd.func23, Tryd.ntmps23
    go_wp2
    refine bodyPost_ret (v := .tuple #[.pointer none, .int .i64 1, .int .i64 0]) (by simp [results, Tryd.results23, go_sem]) rfl ?_
    exact ⟨Below.refl _ _, .inl ⟨by rw [HC.out]; decide, none, by rw [HC.out]; rfl⟩⟩
  · have hc : pCheck s = pRun s (s.size + 1) 1 T0 := by unfold pCheck; rw [if_neg hl]
    have hl' : ¬ (120 : Int) < (s.size : Int) := by omega
    obtain ⟨R, hR⟩ : ∃ R, R = pCheck s := ⟨_, rfl⟩
    have hRun : R = pRun s (s.size + 1) 1 T0 := by rw [hR, hc]
    have HC : Put (_ = _) := ⟨hR⟩
    have HM : Put (_) := ⟨model_any (by omega) (hG (by omega)) (Nat.zero_le _) (by show 0 < 3; omega) (by show 0 < 8; omega) (St.zero s w) (hP (by omega)) hRun⟩
    clear hG hP hc hR hRun
    go_enter Tryd.func23, Tryd.ntmps23
    go_wp2_with fail
    refine HM.out.mono ?_
    rintro e w1 ⟨b, rfl, hD⟩
    clear HM
    cases b with
    | false =>
      obtain ⟨t', ⟨x', hb, hbl⟩, hr⟩ : ∃ t', Fail (w.heap.size + 1) w.heap.size s t' w w1 ∧ R = (2, t'.at_) := hD
      have HR : Put (pCheck s = (2, t'.at_)) := ⟨HC.out.symm.trans hr⟩
      have c1 := hb.c1
      have HB : Put (_) := ⟨hbl⟩
      clear hb hbl hr
      go_wp2
      go_quiet (fail)
      go_wp2
      refine bodyPost_ret (v := .tuple #[.pointer none, .int .i64 2, .int .i64 t'.at_]) (by simp [results, Tryd.results23, go_sem]) rfl ?_
      exact ⟨below_drewN HB.out _, .inl ⟨by rw [HR.out]; show (2 : Nat) ≠ 0; decide, none, by rw [HR.out]; rfl⟩⟩
    | true =>
      obtain ⟨t', x', N, vs, rl, hS, hr, hP, he⟩ : ∃ t' x' N vs rl, St (w.heap.size + 1) w.heap.size N s vs t' x' [] [] rl w w1 ∧ R = (t'.flt, t'.plc) ∧ P 2 t' vs [] [] rl ∧ t'.at_ = s.size := hD
      have HR : Put (pCheck s = (t'.flt, t'.plc)) := ⟨HC.out.symm.trans hr⟩
      have c2 := hS.rb.c2
      have c3 := hS.rb.c3
      have c4 := hS.rb.c4
      have HS : Put (_ ∧ _ ∧ _) := ⟨hS, hP, he⟩
      clear hS hP he hr
      go_wp2
      go_quiet (fail)
      go_wp2
      refine bodyPost_ret (v := .tuple #[.pointer (some ⟨w.heap.size, 0, none⟩), .int .i64 t'.flt, .int .i64 t'.plc]) (by simp [results, Tryd.results23, go_sem]) rfl ?_
      refine ⟨below_drewN HS.out.1.lo _, ?_⟩
      by_cases hz : t'.flt = 0
      · refine .inr ⟨by rw [HR.out]; exact hz, w.heap.size + 1, w.heap.size, N, t', x', vs, rl, ?_, HS.out.1.drewN _, HS.out.2.1, HS.out.2.2, Nat.le_refl _⟩
        rw [HR.out, hz]; rfl
      · exact .inl ⟨by rw [HR.out]; exact hz, _, by rw [HR.out]⟩

theorem readModel_bad (s : ByteArray) (w : World) (hsz : s.size ≤ maxLen) : Calls Tryd.prog 23 #[.string s] w (RMPost s (fun _ _ _ _ _ _ => True) w) :=
  readModel_any s (fun _ => Ghost.any s) (fun _ => trivial) w hsz
set_option maxRecDepth 100000 in
set_option maxHeartbeats 800000 in
theorem check_any (s : ByteArray) (w : World) (hsz : s.size ≤ maxLen) :
    Calls Tryd.prog 8 #[.string s] w fun e w' => e = .returned (.tuple #[.int .i64 (pCheck s).1, .int .i64 (pCheck s).2]) ∧ Below w.heap.size w w' := by
  go_enter Tryd.func8, Tryd.ntmps8
  go_wp2_with fail
  refine (readModel_bad s w hsz).mono ?_
  rintro e w1 ⟨hb1, (⟨_, ao, rfl⟩ | ⟨h0, _, M, _, _, _, _, _, rfl, _⟩)⟩
  · go_wp2
    go_ret2
    exact ⟨rfl, hb1⟩
  · go_wp2
    go_ret2
    refine ⟨?_, hb1⟩
    rw [h0]; rfl
end Go.Proofs.YtkbmolodljenjaaDoor
