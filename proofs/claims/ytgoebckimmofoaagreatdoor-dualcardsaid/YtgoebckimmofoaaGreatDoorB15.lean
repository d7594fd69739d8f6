import Derived.Lib.TrailingZeros
import Derived.Test.YtgoebckimmofoaaGreatDoorRows
import Derived.WalkKit
import Derived.WalkSpells
import Derived.WalkLawsBesides
import Derived.Deep.QuietTactic
import Derived.BigQuiet
import Derived.RegionTactic
import Derived.Scope
import Derived.WalkMore
import Derived.Deep.LoopGhost
import Derived.Deep.AppendLies
import Derived.Deep.RegionHeld3
import Derived.Laws.Bits64b
import Derived.Laws.IdiomStrings
import Derived.Maps.AppendAt
import Derived.RangeFuncBox
import Derived.Deep.RegionLaw
import Derived.Deep.RegionHeld
import Derived.RangeFuncNested
import Derived.RangeFuncBound
import Derived.RangeFuncCalls
import Derived.RangeFuncLeaves
import Derived.Shelf.Abstract
import Derived.Shelf.RegionOpen
import Derived.OwnWalkIn
import Derived.TacticsInMore
import Derived.LoopNIn
import Derived.LoopIn
import Derived.Stop.RegionWithIn
import Derived.MapKept
import Derived.Lib.Bytealg
import Derived.Lib.IndexLaws
import Derived.Laws.EntriesVeiled
import Derived.Test.YtgoebckimmofoaaGreatDoorB1
import Derived.Test.YtgoebckimmofoaaGreatDoorB4
import Derived.Test.YtgoebckimmofoaaGreatDoorB5
import Derived.Test.YtgoebckimmofoaaGreatDoorB7
import Derived.Test.YtgoebckimmofoaaGreatDoorB9
import Derived.Test.YtgoebckimmofoaaGreatDoorB11
import Derived.Deep.DrawnRows
import Derived.Test.YtgoebckimmofoaaGreatDoorB2
import Derived.Test.YtgoebckimmofoaaGreatDoorB3
import Derived.Test.YtgoebckimmofoaaGreatDoorB12
import Derived.Test.YtgoebckimmofoaaGreatDoorB13
import Derived.Test.YtgoebckimmofoaaGreatDoorB14
/- The code's reader: a variable. Our own text. -/
namespace Go.Proofs.YtgoebckimmofoaaGreatDoor
open Go.RowKit Go.Lib

def pFirst (s : ByteArray) (g : Nat) : Nat → Nat → T → T
  | 0, _, t => t
  | f + 1, v, t => match num? s t.at_ 48 (v + 1) 3 with
    | some v' => pFirst s g f v' (if g < v then t.blame 4 else t).adv
    | none => if g < v then t.blame 4 else t
def pVar (s : ByteArray) (t : T) : Bool × T :=
  match num? s t.at_ (97 + t.n) 0 0 with
  | none => (false, t)
  | some _ => match num? s t.adv.at_ 48 1 3 with
    | none => (false, t.adv)
    | some g => match num? s t.adv.adv.at_ 61 0 0 with
      | none => (false, t.adv.adv)
      | some _ => match num? s t.adv.adv.adv.at_ 48 0 3 with
        | none => (false, t.adv.adv.adv)
        | some v => (true, { pFirst s g 4 v t.adv.adv.adv.adv with n := t.n + 1 })

theorem pFirst_same (s : ByteArray) (g : Nat) : ∀ (m v : Nat) (t : T), t.at_ ≤ s.size → t.at_ ≤ (pFirst s g m v t).at_ ∧ (pFirst s g m v t).nr = t.nr ∧ (pFirst s g m v t).chd = t.chd ∧ (pFirst s g m v t).at_ ≤ s.size
  | 0, _, t, h => ⟨Nat.le_refl _, rfl, rfl, h⟩
  | m + 1, v, t, h => by
    have hbl : ∀ t : T, t.at_ ≤ s.size → (if g < v then t.blame 4 else t).at_ = t.at_ ∧ (if g < v then t.blame 4 else t).nr = t.nr ∧ (if g < v then t.blame 4 else t).chd = t.chd := by
      intro t _; split
      · have := blame_same t 4; exact ⟨this.1, this.2.2.1, this.2.2.2⟩
      · exact ⟨rfl, rfl, rfl⟩
    have h1 := hbl t h
    unfold pFirst
    cases e : num? s t.at_ 48 (v + 1) 3 with
    | none => simp only; exact ⟨by omega, h1.2.1, h1.2.2, by omega⟩
    | some v' =>
      have hl := num_lt e
      simp only
      generalize hq : (if g < v then t.blame 4 else t) = q at *
      have e1 : q.adv.at_ = q.at_ + 1 := rfl
      have e2 : q.adv.nr = q.nr := rfl
      have e3 : q.adv.chd = q.chd := rfl
      have := pFirst_same s g m v' q.adv (by omega)
      exact ⟨by omega, by omega, by omega, this.2.2.2⟩
theorem pVar_same {s : ByteArray} {t t' : T} {b : Bool} (h : pVar s t = (b, t')) (ht : t.at_ ≤ s.size) : t.at_ ≤ t'.at_ ∧ t'.nr = t.nr ∧ t'.chd = t.chd ∧ t'.at_ ≤ s.size ∧ (b = true → t.at_ < t'.at_ ∧ t'.n = t.n + 1) := by
  unfold pVar at h
  split at h
  · cases h; exact ⟨Nat.le_refl _, rfl, rfl, ht, fun h => by cases h⟩
  · next e1 =>
    have l1 : t.adv.at_ ≤ s.size := num_lt e1
    split at h
    · cases h; exact ⟨Nat.le_succ _, rfl, rfl, l1, fun h => by cases h⟩
    · next e2 =>
      have l2 : t.adv.adv.at_ ≤ s.size := num_lt e2
      split at h
      · cases h; exact ⟨by show t.at_ ≤ t.at_ + 1 + 1; omega, rfl, rfl, l2, fun h => by cases h⟩
      · next e3 =>
        have l3 : t.adv.adv.adv.at_ ≤ s.size := num_lt e3
        split at h
        · cases h; exact ⟨by show t.at_ ≤ t.at_ + 1 + 1 + 1; omega, rfl, rfl, l3, fun h => by cases h⟩
        · next _ g _ _ _ v e4 =>
          have l4 : t.adv.adv.adv.adv.at_ ≤ s.size := num_lt e4
          have := pFirst_same s g 4 v t.adv.adv.adv.adv l4
          have e : t.adv.adv.adv.adv.at_ = t.at_ + 1 + 1 + 1 + 1 := rfl
          cases h
          exact ⟨by show t.at_ ≤ (pFirst s g 4 v t.adv.adv.adv.adv).at_; omega, this.2.1, this.2.2.1, this.2.2.2, fun _ => ⟨by show t.at_ < (pFirst s g 4 v t.adv.adv.adv.adv).at_; omega, rfl⟩⟩

theorem frame_of (x : Array Value) (n : Nat) (h : x.size = n) : x = ((List.range n).map (fun i => x.getD i undef)).toArray := by
  apply Array.ext
  · simp [h]
  · intro i h1 h2
    simp [Array.getD, h1]
theorem frameV (a : Act) (h : a.tmps.size = 96) (hd : a.defers = [])  : ∃ u : Nat → Value, a = { tmps := #[u 0, u 1, u 2, u 3, u 4, u 5, u 6, u 7, u 8, u 9, u 10, u 11, u 12, u 13, u 14, u 15, u 16, u 17, u 18, u 19, u 20, u 21, u 22, u 23, u 24, u 25, u 26, u 27, u 28, u 29, u 30, u 31, u 32, u 33, u 34, u 35, u 36, u 37, u 38, u 39, u 40, u 41, u 42, u 43, u 44, u 45, u 46, u 47, u 48, u 49, u 50, u 51, u 52, u 53, u 54, u 55, u 56, u 57, u 58, u 59, u 60, u 61, u 62, u 63, u 64, u 65, u 66, u 67, u 68, u 69, u 70, u 71, u 72, u 73, u 74, u 75, u 76, u 77, u 78, u 79, u 80, u 81, u 82, u 83, u 84, u 85, u 86, u 87, u 88, u 89, u 90, u 91, u 92, u 93, u 94, u 95], defers := [] } := by
  obtain ⟨x, d⟩ := a
  refine ⟨fun i => x.getD i undef, ?_⟩
  simp only at h hd 
  subst hd 
  have := frame_of x 96 h
  exact congrArg (fun y => Act.mk y []) this
theorem frameV' (a : Act) (p0 p3 p4 : Value) (h : a.tmps.size = 96) (hd : a.defers = []) (h0 : a.tmps.getD 0 undef = p0) (h3 : a.tmps.getD 3 undef = p3) (h4 : a.tmps.getD 4 undef = p4) : ∃ u : Nat → Value, a = { tmps := #[p0, u 1, u 2, p3, p4, u 5, u 6, u 7, u 8, u 9, u 10, u 11, u 12, u 13, u 14, u 15, u 16, u 17, u 18, u 19, u 20, u 21, u 22, u 23, u 24, u 25, u 26, u 27, u 28, u 29, u 30, u 31, u 32, u 33, u 34, u 35, u 36, u 37, u 38, u 39, u 40, u 41, u 42, u 43, u 44, u 45, u 46, u 47, u 48, u 49, u 50, u 51, u 52, u 53, u 54, u 55, u 56, u 57, u 58, u 59, u 60, u 61, u 62, u 63, u 64, u 65, u 66, u 67, u 68, u 69, u 70, u 71, u 72, u 73, u 74, u 75, u 76, u 77, u 78, u 79, u 80, u 81, u 82, u 83, u 84, u 85, u 86, u 87, u 88, u 89, u 90, u 91, u 92, u 93, u 94, u 95], defers := [] } := by
  obtain ⟨x, d⟩ := a
  refine ⟨fun i => x.getD i undef, ?_⟩
  simp only at h hd h0 h3 h4
  subst hd h0 h3 h4
  have := frame_of x 96 h
  exact congrArg (fun y => Act.mk y []) this

/-- The values that are read from a value on. -/
def fOf (s : ByteArray) : Nat → Nat → Nat → List Nat
  | 0, _, _ => []
  | f + 1, v, p => v :: (match num? s p 48 (v + 1) 3 with
    | some v' => fOf s f v' (p + 1)
    | none => [])
/-- The variable that stands at a place. -/
def vOf (s : ByteArray) (p : Nat) : V2 := match num? s (p + 1) 48 1 3 with
  | some g => (match num? s (p + 3) 48 0 3 with
    | some v => (g, fOf s 4 v (p + 4))
    | none => (0, []))
  | none => (0, [])
theorem vOf_eq {s : ByteArray} {p g v q : Nat} (h1 : num? s (p + 1) 48 1 3 = some g) (h2 : num? s (p + 3) 48 0 3 = some v) (hq : q = p + 4) : vOf s p = (g, [] ++ fOf s 4 v q) := by
  unfold vOf; rw [h1]; simp only; rw [h2, hq]; simp

/-- What holds at the labels of 'variable'. -/
def JV (B M : Nat) (s : ByteArray) (w : World) (x : Junk) (nn nr at0 : Nat) (V : V2) (R : Bool × T) (l m : Nat) (a : Act) (w' : World) : Prop :=
  (l = 0 ∧ m = 0 ∧ (a.tmps.size = 96 ∧ a.defers = []) ∧ R.1 = false ∧ RB B M s R.2 x w' ∧ Ex B w w') ∨
  (l = 1 ∧ ∃ (v g f : Nat) (acc : List Nat) (t : T), (a.tmps.size = 96 ∧ a.defers = [] ∧ a.tmps.getD 0 undef = .pointer (some ⟨B, 0, none⟩) ∧ a.tmps.getD 3 undef = .pointer (some ⟨w.heap.size, 0, none⟩) ∧ a.tmps.getD 4 undef = .int .i64 v) ∧ R = (true, { pFirst s g m v t with n := nn + 1 }) ∧ Put (V = (g, acc ++ fOf s m v t.at_)) ∧ Put (BitsL f acc) ∧ v ≤ 3 ∧ g ≤ 3 ∧ 4 ≤ v + m ∧ at0 ≤ t.at_ ∧ 1 ≤ t.at_ ∧ t.at_ ≤ s.size ∧ t.n = nn ∧ t.nr = nr ∧
    RB B M s t x w' ∧ Ex B w w' ∧ w'.heap[w.heap.size]? = some (.cells #[.int .i64 g, .int .u8 f] 109 (0, 0)))

section
variable {B M N : Nat} {s : ByteArray} {vs : List V2} {t : T} {x : Junk} {w0 w w' : World}
theorem St.var_push (h : St B M N s vs t x [] [] [] w0 w) {t' : T} {x' : Junk} {g f : Nat} {l : List Nat} (hb : RB B M s t' x' w') (hx' : x' = x.setv t.n g f) (hx : Ex2 B M w w') (hn : t'.n = t.n + 1) (hr : t'.nr = t.nr) (_ha : t.at_ ≤ t'.at_) (hf : BitsL f l) (hg : g ≤ 3) (h3 : t.n < 3) :
    St B M N s (vs ++ [(g, l)]) t' x' [] [] [] w0 w' := by
  subst hx'
  have e := setv_rows x t.n g f
  have hM := h.rb.lo
  have hN := h.hN
  obtain ⟨⟨xs, r1, r2⟩, ⟨ys, c1, c2⟩, ⟨zs, d1, d2⟩⟩ := h.rw
  have hz : ∀ {α β : Type} {R : α → β → Prop} {l : List α}, All2 R l [] → l = [] := fun {α β R l} h => by
    cases l with
    | nil => rfl
    | cons a b => exact h.elim
  obtain rfl := hz r2
  obtain rfl := hz c2
  obtain rfl := hz d2
  refine ⟨hr.trans h.nr, h.l8, h.hN, Nat.le_trans h.hNw hx.size, Nat.zero_le _, Nat.zero_le _, h.d3, hb, ⟨⟨[], by rw [e.1]; exact hx.ownsRow (by omega) (by omega) r1, All2.nil⟩, ⟨[], by rw [e.2.1]; exact hx.ownsRow hN (by omega) c1, All2.nil⟩, ⟨[], by rw [e.2.2]; exact hx.ownsRow hN (by omega) d1, All2.nil⟩⟩, h.lo.trans (hx.below hM (by have := h.rb.ltM; omega)), ?_, ?_⟩
  · rw [← h.vl]; exact h.gf.setv (by rw [h.vl]; exact h3) hg hf
  · simp [h.vl, hn]

set_option maxRecDepth 100000 in
set_option maxHeartbeats 3200000 in
theorem var_any {b : Bool} {t' : T} (hs : s.size ≤ 120) (hat : t.at_ ≤ s.size) (hn : t.n < 3) (h : St B M N s vs t x [] [] [] w0 w) (hp : pVar s t = (b, t')) :
    Calls Tryz.prog 73 #[.pointer (some ⟨B, 0, none⟩)] w fun e w' => e = .returned (.bool b) ∧ Done b (Fail B M s t' w0 w') (∃ x', St B M N s (vs ++ [vOf s t.at_]) t' x' [] [] [] w0 w') := by
  have hb := h.rb
  have hB := hb.lt
  have hMw := hb.ltM
  have SM := pVar_same hp hat
  have HS : Put (_) := ⟨h⟩
  obtain ⟨V, hV⟩ : ∃ V, V = vOf s t.at_ := ⟨_, rfl⟩
  rw [← hV]
  have HVV : Put (vOf s t.at_ = V) := ⟨hV.symm⟩
  clear h hV
  go_enter Tryz.func73, Tryz.ntmps73
  go_wp2_with fail
  refine wp_scope_rest (JV B M s w x t.n t.nr t.at_ V (b, t')) ?hf ?pass ?first
  case hf =>
    rintro l m a w' (⟨rfl, _⟩ | ⟨rfl, _⟩)
    · rfl
    · rfl
  case pass =>
    rintro m ih l a w' (⟨rfl, rfl, ⟨fz, fd⟩, hr, hb', hx'⟩ | ⟨rfl, v, g, f, acc, t1, ⟨fz, fd, f0, f3, f4⟩, hr, hL, hbits, hv, hg, hm, ha0, hat0, hat1, hn1, hnr, hb', hx', hv'⟩)
    · obtain ⟨u, rfl⟩ := frameV a fz fd
      clear fz fd ih
      show Code.wp Tryz.prog (.seq (.region _ _ _) .ret) _ _ _
      have FIN : Put (Fail B M s t' w0 w') := ⟨HS.out.fail hb' hx'⟩
      have hbf : b = false := hr
      subst hbf
      clear hb' hx' hb HS
      go_wp2
      rw [jumps_ret]
      go_ret
      exact ⟨rfl, FIN.out⟩
    · obtain ⟨u, rfl⟩ := frameV' a _ _ _ fz fd f0 f3 f4
      clear fz fd f0 f3 f4 ih hb
      show Code.wp Tryz.prog (.seq _ _) _ _ _
      have q0 := two_cell0 hv'
      have q1 := two_cell1 hv'
      have f1 := two_free hv' 1
      have hlt := lt_of_block hv'
      have hf16 : f < 256 := by have := hbits.out.1; omega
      obtain ⟨m', rfl⟩ : ∃ m', m = m' + 1 := ⟨m - 1, by omega⟩
      obtain ⟨t2, ht2⟩ : ∃ t2, t2 = if g < v then t1.blame 4 else t1 := ⟨_, rfl⟩
      have st2 : t2.at_ = t1.at_ ∧ t2.n = t1.n ∧ t2.nr = t1.nr := by
        rw [ht2]; split
        · have := blame_same t1 4; exact ⟨this.1, this.2.1, this.2.2.1⟩
        · exact ⟨rfl, rfl, rfl⟩
      unfold pFirst at hr
      rw [← ht2] at hr
      clear SM
      by_cases hgv : g < v
      · have hgv' : (g : Int) < (v : Int) := by omega
        have e2 : t2 = t1.blame 4 := by rw [ht2, if_pos hgv]
        clear ht2 hgv
        go_wp2_with fail
        refine (blame_any 4 hat0 (by omega) hb').mono ?_; rintro e w2 ⟨rfl, hb2, hx2⟩
        rw [← e2] at hb2
        have hv2 := (hx2.block w.heap.size hlt (by omega)).trans hv'
        have hX := hx'.trans hx2
        clear q0 q1 f1 hlt hv' hb' hx' hx2 e2
        have q0 := two_cell0 hv2
        have q1 := two_cell1 hv2
        have f1 := two_free hv2 1
        have hlt := lt_of_block hv2
        go_wp2_with fail
        refine (with8_any f v hf16 (by omega) _).mono ?_; rintro e w3 ⟨rfl, hw3⟩
        rw [hw3]
        clear hw3 w3
        have HBT : Put (BitsL (f ||| 2 ^ v) (acc ++ [v])) := ⟨hbits.out.snoc v hv⟩
        generalize f ||| 2 ^ v = c' at *
        have HB3 : Put (RB B M s t2 x (w2.setCell ⟨w.heap.size, 1, none⟩ (.int .u8 c'))) := ⟨hb2.set_other (by show w.heap.size ≠ B; omega) (by show w.heap.size ≠ M; omega) _⟩
        have HX3 : Put (Ex B w (w2.setCell ⟨w.heap.size, 1, none⟩ (.int .u8 c'))) := ⟨hX.setCell (.inr (Nat.le_refl _)) _⟩
        have HV3 : Put ((w2.setCell ⟨w.heap.size, 1, none⟩ (.int .u8 c')).heap[w.heap.size]? = some (.cells #[.int .i64 g, .int .u8 c'] 109 (0, 0))) := ⟨two_setCell1 hv2⟩
        clear hb2 hX hv2 hbits
        cases hd : num? s t1.at_ 48 (v + 1) 3 with
        | some v' =>
          simp only [hd] at hr
          have hd2 : num? s t2.at_ 48 (v + 1) 3 = some v' := by rw [st2.1]; exact hd
          have hv' := num_le hd2
          have l2 := num_lt hd2
          have HL' : Put (V = (g, (acc ++ [v]) ++ fOf s m' v' t2.adv.at_)) := ⟨by
            have e : fOf s (m' + 1) v t1.at_ = v :: fOf s m' v' (t1.at_ + 1) := by rw [fOf]; simp only [hd]
            have e2 : t2.adv.at_ = t1.at_ + 1 := by show t2.at_ + 1 = _; rw [st2.1]
            rw [hL.out, e, e2]; simp⟩
          go_wp2_with fail
          refine (digit_yes' (v + 1) v' (by omega) hs (by omega) HB3.out hd2).mono ?_; rintro e w4 ⟨rfl, hb4, hx4⟩
          have hv4 := (hx4.block w.heap.size (lt_of_block HV3.out) (by omega)).trans HV3.out
          have hx4' := HX3.out.trans hx4
          clear hx4 HB3 HX3 HV3 q0 q1 f1 hd hd2 hL
          go_wp2
          go_step3
          show ∃ m'', m'' < m' + 1 ∧ JV B M s w x t.n t.nr t.at_ V (b, t') 1 m'' _ w4
          exact ⟨m', Nat.lt_succ_self _, .inr ⟨rfl, v', g, c', acc ++ [v], t2.adv, ⟨rfl, rfl, rfl, rfl, rfl⟩, hr, HL', HBT, hv'.2, hg, by omega, by show t.at_ ≤ t2.at_ + 1; omega, by show 1 ≤ t2.at_ + 1; omega, by show t2.at_ + 1 ≤ s.size; omega, by show t2.n = t.n; omega, by show t2.nr = t.nr; omega, hb4, hx4', hv4⟩⟩
        | none =>
          simp only [hd, Prod.mk.injEq] at hr
          obtain ⟨rfl, hr⟩ := hr
          have hd2 : num? s t2.at_ 48 (v + 1) 3 = none := by rw [st2.1]; exact hd
          have hn2 : t2.n = t.n := by omega
          have HL' : Put (V = (g, acc ++ [v])) := ⟨by
            have e : fOf s (m' + 1) v t1.at_ = [v] := by rw [fOf]; simp only [hd]
            rw [hL.out, e]⟩
          have HT : Put (t' = { t2 with n := t.n + 1 }) := ⟨hr⟩
          go_wp2_with fail
          refine (digit_no' (v + 1) (by omega) hs (by omega) (by omega) HB3.out hd2).mono ?_; rintro e w4 ⟨rfl, hb4, hx4⟩
          have hv4 := (hx4.block w.heap.size (lt_of_block HV3.out) (by omega)).trans HV3.out
          have hx4' := HX3.out.trans hx4
          clear hx4 HB3 HX3 HV3 q0 q1 f1 hd hd2 hlt hL hr
          have q0 := two_cell0 hv4
          have q1 := two_cell1 hv4
          have hlt := lt_of_block hv4
          have FM : ∀ i, w4.frozen? ⟨M, i, none⟩ = false := fun i => hb4.freeM i
          have d6 := hb4.m6
          have d2 := hb4.c2
          rw [hn2] at d6
          have hBlt := hb4.lt
          have hMlt := hb4.ltM
          have hlo4 := hb4.lo
          go_wp2_with fail
          have hcase : t.n = 0 ∨ t.n = 1 ∨ t.n = 2 := by omega
          rcases hcase with h0 | h0 | h0
          · rw [h0] at d6
            have e1 := hb4.m0
            have e2 := hb4.m1
            have hb5 := hb4.setv0 g c'
            have z2 : ((w4.setCell ⟨M, 0, none⟩ (.int .i64 g)).setCell ⟨M, 1, none⟩ (.int .u8 c')).drew.cell? ⟨B, 2, none⟩ = some (.pointer (some ⟨M, 0, none⟩)) := hb5.drew.c2
            have z6 : ((w4.setCell ⟨M, 0, none⟩ (.int .i64 g)).setCell ⟨M, 1, none⟩ (.int .u8 c')).drew.cell? ⟨M, 6, none⟩ = some (.int .i64 0) := by have := hb5.drew.m6; rw [hn2, h0] at this; exact this
            have zf : ((w4.setCell ⟨M, 0, none⟩ (.int .i64 g)).setCell ⟨M, 1, none⟩ (.int .u8 c')).drew.frozen? ⟨M, 6, none⟩ = false := hb5.drew.freeM 6
            have HF : Put (∃ x', St B M N s (vs ++ [V]) t' x' [] [] [] w0 (((w4.setCell ⟨M, 0, none⟩ (.int .i64 g)).setCell ⟨M, 1, none⟩ (.int .u8 c')).drew.setCell ⟨M, 6, none⟩ (.int .i64 1))) :=
              ⟨_, by rw [HL'.out]; exact HS.out.var_push (f := c') (by rw [HT.out, h0]; exact hb5.drew.setn 1) (by rw [h0]) ((((hx4'.two (M := M)).setCell (.inr (.inl rfl)) _).setCell (.inr (.inl rfl)) _).drew.setCell (.inr (.inl rfl)) _) (by rw [HT.out]) (by rw [HT.out]; show t2.nr = t.nr; omega) (by rw [HT.out]; show t.at_ ≤ t2.at_; omega) HBT.out hg hn⟩
            clear hb4 hb5 hx4' hv4
            go_region
            all_goals
              go_wp2
              rw [jumps_ret]
              go_ret
              exact ⟨rfl, HF.out⟩
          · rw [h0] at d6
            have e1 := hb4.m2
            have e2 := hb4.m3
            have hb5 := hb4.setv1 g c'
            have z2 : ((w4.setCell ⟨M, 2, none⟩ (.int .i64 g)).setCell ⟨M, 3, none⟩ (.int .u8 c')).drew.cell? ⟨B, 2, none⟩ = some (.pointer (some ⟨M, 0, none⟩)) := hb5.drew.c2
            have z6 : ((w4.setCell ⟨M, 2, none⟩ (.int .i64 g)).setCell ⟨M, 3, none⟩ (.int .u8 c')).drew.cell? ⟨M, 6, none⟩ = some (.int .i64 1) := by have := hb5.drew.m6; rw [hn2, h0] at this; exact this
            have zf : ((w4.setCell ⟨M, 2, none⟩ (.int .i64 g)).setCell ⟨M, 3, none⟩ (.int .u8 c')).drew.frozen? ⟨M, 6, none⟩ = false := hb5.drew.freeM 6
            have HF : Put (∃ x', St B M N s (vs ++ [V]) t' x' [] [] [] w0 (((w4.setCell ⟨M, 2, none⟩ (.int .i64 g)).setCell ⟨M, 3, none⟩ (.int .u8 c')).drew.setCell ⟨M, 6, none⟩ (.int .i64 2))) :=
              ⟨_, by rw [HL'.out]; exact HS.out.var_push (f := c') (by rw [HT.out, h0]; exact hb5.drew.setn 2) (by rw [h0]) ((((hx4'.two (M := M)).setCell (.inr (.inl rfl)) _).setCell (.inr (.inl rfl)) _).drew.setCell (.inr (.inl rfl)) _) (by rw [HT.out]) (by rw [HT.out]; show t2.nr = t.nr; omega) (by rw [HT.out]; show t.at_ ≤ t2.at_; omega) HBT.out hg hn⟩
            clear hb4 hb5 hx4' hv4
            go_region
            all_goals
              go_wp2
              rw [jumps_ret]
              go_ret
              exact ⟨rfl, HF.out⟩
          · rw [h0] at d6
            have e1 := hb4.m4
            have e2 := hb4.m5
            have hb5 := hb4.setv2 g c'
            have z2 : ((w4.setCell ⟨M, 4, none⟩ (.int .i64 g)).setCell ⟨M, 5, none⟩ (.int .u8 c')).drew.cell? ⟨B, 2, none⟩ = some (.pointer (some ⟨M, 0, none⟩)) := hb5.drew.c2
            have z6 : ((w4.setCell ⟨M, 4, none⟩ (.int .i64 g)).setCell ⟨M, 5, none⟩ (.int .u8 c')).drew.cell? ⟨M, 6, none⟩ = some (.int .i64 2) := by have := hb5.drew.m6; rw [hn2, h0] at this; exact this
            have zf : ((w4.setCell ⟨M, 4, none⟩ (.int .i64 g)).setCell ⟨M, 5, none⟩ (.int .u8 c')).drew.frozen? ⟨M, 6, none⟩ = false := hb5.drew.freeM 6
            have HF : Put (∃ x', St B M N s (vs ++ [V]) t' x' [] [] [] w0 (((w4.setCell ⟨M, 4, none⟩ (.int .i64 g)).setCell ⟨M, 5, none⟩ (.int .u8 c')).drew.setCell ⟨M, 6, none⟩ (.int .i64 3))) :=
              ⟨_, by rw [HL'.out]; exact HS.out.var_push (f := c') (by rw [HT.out, h0]; exact hb5.drew.setn 3) (by rw [h0]) ((((hx4'.two (M := M)).setCell (.inr (.inl rfl)) _).setCell (.inr (.inl rfl)) _).drew.setCell (.inr (.inl rfl)) _) (by rw [HT.out]) (by rw [HT.out]; show t2.nr = t.nr; omega) (by rw [HT.out]; show t.at_ ≤ t2.at_; omega) HBT.out hg hn⟩
            clear hb4 hb5 hx4' hv4
            go_region
            all_goals
              go_wp2
              rw [jumps_ret]
              go_ret
              exact ⟨rfl, HF.out⟩
      · have hgv' : ¬ (g : Int) < (v : Int) := by omega
        have e2 : t2 = t1 := by rw [ht2, if_neg hgv]
        have hb2 : RB B M s t2 x w' := by rw [e2]; exact hb'
        have hv2 := hv'
        have hX := hx'
        clear ht2 hgv hv' hb' hx' e2
        generalize w' = w2 at *
        go_wp2_with fail
        refine (with8_any f v hf16 (by omega) _).mono ?_; rintro e w3 ⟨rfl, hw3⟩
        rw [hw3]
        clear hw3 w3
        have HBT : Put (BitsL (f ||| 2 ^ v) (acc ++ [v])) := ⟨hbits.out.snoc v hv⟩
        generalize f ||| 2 ^ v = c' at *
        have HB3 : Put (RB B M s t2 x (w2.setCell ⟨w.heap.size, 1, none⟩ (.int .u8 c'))) := ⟨hb2.set_other (by show w.heap.size ≠ B; omega) (by show w.heap.size ≠ M; omega) _⟩
        have HX3 : Put (Ex B w (w2.setCell ⟨w.heap.size, 1, none⟩ (.int .u8 c'))) := ⟨hX.setCell (.inr (Nat.le_refl _)) _⟩
        have HV3 : Put ((w2.setCell ⟨w.heap.size, 1, none⟩ (.int .u8 c')).heap[w.heap.size]? = some (.cells #[.int .i64 g, .int .u8 c'] 109 (0, 0))) := ⟨two_setCell1 hv2⟩
        clear hb2 hX hv2 hbits
        cases hd : num? s t1.at_ 48 (v + 1) 3 with
        | some v' =>
          simp only [hd] at hr
          have hd2 : num? s t2.at_ 48 (v + 1) 3 = some v' := by rw [st2.1]; exact hd
          have hv' := num_le hd2
          have l2 := num_lt hd2
          have HL' : Put (V = (g, (acc ++ [v]) ++ fOf s m' v' t2.adv.at_)) := ⟨by
            have e : fOf s (m' + 1) v t1.at_ = v :: fOf s m' v' (t1.at_ + 1) := by rw [fOf]; simp only [hd]
            have e2 : t2.adv.at_ = t1.at_ + 1 := by show t2.at_ + 1 = _; rw [st2.1]
            rw [hL.out, e, e2]; simp⟩
          go_wp2_with fail
          refine (digit_yes' (v + 1) v' (by omega) hs (by omega) HB3.out hd2).mono ?_; rintro e w4 ⟨rfl, hb4, hx4⟩
          have hv4 := (hx4.block w.heap.size (lt_of_block HV3.out) (by omega)).trans HV3.out
          have hx4' := HX3.out.trans hx4
          clear hx4 HB3 HX3 HV3 q0 q1 f1 hd hd2 hL
          go_wp2
          go_step3
          show ∃ m'', m'' < m' + 1 ∧ JV B M s w x t.n t.nr t.at_ V (b, t') 1 m'' _ w4
          exact ⟨m', Nat.lt_succ_self _, .inr ⟨rfl, v', g, c', acc ++ [v], t2.adv, ⟨rfl, rfl, rfl, rfl, rfl⟩, hr, HL', HBT, hv'.2, hg, by omega, by show t.at_ ≤ t2.at_ + 1; omega, by show 1 ≤ t2.at_ + 1; omega, by show t2.at_ + 1 ≤ s.size; omega, by show t2.n = t.n; omega, by show t2.nr = t.nr; omega, hb4, hx4', hv4⟩⟩
        | none =>
          simp only [hd, Prod.mk.injEq] at hr
          obtain ⟨rfl, hr⟩ := hr
          have hd2 : num? s t2.at_ 48 (v + 1) 3 = none := by rw [st2.1]; exact hd
          have hn2 : t2.n = t.n := by omega
          have HL' : Put (V = (g, acc ++ [v])) := ⟨by
            have e : fOf s (m' + 1) v t1.at_ = [v] := by rw [fOf]; simp only [hd]
            rw [hL.out, e]⟩
          have HT : Put (t' = { t2 with n := t.n + 1 }) := ⟨hr⟩
          go_wp2_with fail
          refine (digit_no' (v + 1) (by omega) hs (by omega) (by omega) HB3.out hd2).mono ?_; rintro e w4 ⟨rfl, hb4, hx4⟩
          have hv4 := (hx4.block w.heap.size (lt_of_block HV3.out) (by omega)).trans HV3.out
          have hx4' := HX3.out.trans hx4
          clear hx4 HB3 HX3 HV3 q0 q1 f1 hd hd2 hlt hL hr
          have q0 := two_cell0 hv4
          have q1 := two_cell1 hv4
          have hlt := lt_of_block hv4
          have FM : ∀ i, w4.frozen? ⟨M, i, none⟩ = false := fun i => hb4.freeM i
          have d6 := hb4.m6
          have d2 := hb4.c2
          rw [hn2] at d6
          have hBlt := hb4.lt
          have hMlt := hb4.ltM
          have hlo4 := hb4.lo
          go_wp2_with fail
          have hcase : t.n = 0 ∨ t.n = 1 ∨ t.n = 2 := by omega
          rcases hcase with h0 | h0 | h0
          · rw [h0] at d6
            have e1 := hb4.m0
            have e2 := hb4.m1
            have hb5 := hb4.setv0 g c'
            have z2 : ((w4.setCell ⟨M, 0, none⟩ (.int .i64 g)).setCell ⟨M, 1, none⟩ (.int .u8 c')).drew.cell? ⟨B, 2, none⟩ = some (.pointer (some ⟨M, 0, none⟩)) := hb5.drew.c2
            have z6 : ((w4.setCell ⟨M, 0, none⟩ (.int .i64 g)).setCell ⟨M, 1, none⟩ (.int .u8 c')).drew.cell? ⟨M, 6, none⟩ = some (.int .i64 0) := by have := hb5.drew.m6; rw [hn2, h0] at this; exact this
            have zf : ((w4.setCell ⟨M, 0, none⟩ (.int .i64 g)).setCell ⟨M, 1, none⟩ (.int .u8 c')).drew.frozen? ⟨M, 6, none⟩ = false := hb5.drew.freeM 6
            have HF : Put (∃ x', St B M N s (vs ++ [V]) t' x' [] [] [] w0 (((w4.setCell ⟨M, 0, none⟩ (.int .i64 g)).setCell ⟨M, 1, none⟩ (.int .u8 c')).drew.setCell ⟨M, 6, none⟩ (.int .i64 1))) :=
              ⟨_, by rw [HL'.out]; exact HS.out.var_push (f := c') (by rw [HT.out, h0]; exact hb5.drew.setn 1) (by rw [h0]) ((((hx4'.two (M := M)).setCell (.inr (.inl rfl)) _).setCell (.inr (.inl rfl)) _).drew.setCell (.inr (.inl rfl)) _) (by rw [HT.out]) (by rw [HT.out]; show t2.nr = t.nr; omega) (by rw [HT.out]; show t.at_ ≤ t2.at_; omega) HBT.out hg hn⟩
            clear hb4 hb5 hx4' hv4
            go_region
            all_goals
              go_wp2
              rw [jumps_ret]
              go_ret
              exact ⟨rfl, HF.out⟩
          · rw [h0] at d6
            have e1 := hb4.m2
            have e2 := hb4.m3
            have hb5 := hb4.setv1 g c'
            have z2 : ((w4.setCell ⟨M, 2, none⟩ (.int .i64 g)).setCell ⟨M, 3, none⟩ (.int .u8 c')).drew.cell? ⟨B, 2, none⟩ = some (.pointer (some ⟨M, 0, none⟩)) := hb5.drew.c2
            have z6 : ((w4.setCell ⟨M, 2, none⟩ (.int .i64 g)).setCell ⟨M, 3, none⟩ (.int .u8 c')).drew.cell? ⟨M, 6, none⟩ = some (.int .i64 1) := by have := hb5.drew.m6; rw [hn2, h0] at this; exact this
            have zf : ((w4.setCell ⟨M, 2, none⟩ (.int .i64 g)).setCell ⟨M, 3, none⟩ (.int .u8 c')).drew.frozen? ⟨M, 6, none⟩ = false := hb5.drew.freeM 6
            have HF : Put (∃ x', St B M N s (vs ++ [V]) t' x' [] [] [] w0 (((w4.setCell ⟨M, 2, none⟩ (.int .i64 g)).setCell ⟨M, 3, none⟩ (.int .u8 c')).drew.setCell ⟨M, 6, none⟩ (.int .i64 2))) :=
              ⟨_, by rw [HL'.out]; exact HS.out.var_push (f := c') (by rw [HT.out, h0]; exact hb5.drew.setn 2) (by rw [h0]) ((((hx4'.two (M := M)).setCell (.inr (.inl rfl)) _).setCell (.inr (.inl rfl)) _).drew.setCell (.inr (.inl rfl)) _) (by rw [HT.out]) (by rw [HT.out]; show t2.nr = t.nr; omega) (by rw [HT.out]; show t.at_ ≤ t2.at_; omega) HBT.out hg hn⟩
            clear hb4 hb5 hx4' hv4
            go_region
            all_goals
              go_wp2
              rw [jumps_ret]
              go_ret
              exact ⟨rfl, HF.out⟩
          · rw [h0] at d6
            have e1 := hb4.m4
            have e2 := hb4.m5
            have hb5 := hb4.setv2 g c'
            have z2 : ((w4.setCell ⟨M, 4, none⟩ (.int .i64 g)).setCell ⟨M, 5, none⟩ (.int .u8 c')).drew.cell? ⟨B, 2, none⟩ = some (.pointer (some ⟨M, 0, none⟩)) := hb5.drew.c2
            have z6 : ((w4.setCell ⟨M, 4, none⟩ (.int .i64 g)).setCell ⟨M, 5, none⟩ (.int .u8 c')).drew.cell? ⟨M, 6, none⟩ = some (.int .i64 2) := by have := hb5.drew.m6; rw [hn2, h0] at this; exact this
            have zf : ((w4.setCell ⟨M, 4, none⟩ (.int .i64 g)).setCell ⟨M, 5, none⟩ (.int .u8 c')).drew.frozen? ⟨M, 6, none⟩ = false := hb5.drew.freeM 6
            have HF : Put (∃ x', St B M N s (vs ++ [V]) t' x' [] [] [] w0 (((w4.setCell ⟨M, 4, none⟩ (.int .i64 g)).setCell ⟨M, 5, none⟩ (.int .u8 c')).drew.setCell ⟨M, 6, none⟩ (.int .i64 3))) :=
              ⟨_, by rw [HL'.out]; exact HS.out.var_push (f := c') (by rw [HT.out, h0]; exact hb5.drew.setn 3) (by rw [h0]) ((((hx4'.two (M := M)).setCell (.inr (.inl rfl)) _).setCell (.inr (.inl rfl)) _).drew.setCell (.inr (.inl rfl)) _) (by rw [HT.out]) (by rw [HT.out]; show t2.nr = t.nr; omega) (by rw [HT.out]; show t.at_ ≤ t2.at_; omega) HBT.out hg hn⟩
            clear hb4 hb5 hx4' hv4
            go_region
            all_goals
              go_wp2
              rw [jumps_ret]
              go_ret
              exact ⟨rfl, HF.out⟩
  case first =>
    intro ih
    clear SM
    unfold pVar at hp
    have hb0 := hb.alloc (.cells #[.int .i64 0, .int .u8 0] 109)
    have hx0 := (Ex.refl B w).alloc (.cells #[.int .i64 0, .int .u8 0] 109)
    have hv0 := heap_alloc_new w (.cells #[.int .i64 0, .int .u8 0] 109)
    have hv0' : (w.alloc (.cells #[.int .i64 0, .int .u8 0] 109)).drew.heap[w.heap.size]? = _ := hv0
    have HW : Put (IntKind.u8.wrap (97 + IntKind.u8.wrap (t.n : Int)) = ((97 + t.n : Nat) : Int)) := ⟨by simp [IntKind.wrap, IntKind.signed, IntKind.bits]; omega⟩
    have c2 := hb.c2
    have m6 := hb.m6
    have hMlt := hb.ltM
    cases h1 : num? s t.at_ (97 + t.n) 0 0 with
    | none =>
      simp only [h1, Prod.mk.injEq] at hp
      obtain ⟨rfl, rfl⟩ := hp
      go_wp2_with fail
      go_region_law ((go_simp; go_at_call 74; refine (take_no' (97 + t.n) HW.out hs hat (by omega) hb0.drew h1).mono ?_; rintro e w1 ⟨rfl, hb1, hx1⟩))
      all_goals
        go_wp2
        go_step3
        show ∃ m, JV B M s w x t.n t.nr t.at_ V (false, t) 0 m _ w1
        exact ⟨0, .inl ⟨rfl, rfl, ⟨rfl, rfl⟩, rfl, hb1, hx0.drew.trans hx1⟩⟩
    | some k1 =>
      simp only [h1] at hp
      have l1 : t.adv.at_ ≤ s.size := num_lt h1
      have n1 : t.adv.at_ = t.at_ + 1 := rfl
      generalize ht1 : t.adv = t1 at *
      cases h2 : num? s t1.at_ 48 1 3 with
      | none =>
        simp only [h2, Prod.mk.injEq] at hp
        obtain ⟨rfl, rfl⟩ := hp
        go_wp2_with fail
        go_region_law ((go_simp; go_at_call 74; refine (take_yes' (97 + t.n) k1 HW.out hs (by omega) hb0.drew h1).mono ?_; rintro e w1 ⟨rfl, hb1, hx1⟩))
        all_goals
          rw [ht1] at hb1
          go_wp2_with fail
          refine (digit_no 1 hs l1 (by omega) hb1 h2).mono ?_; rintro e w2 ⟨rfl, hb2, hx2⟩
          have hX := (hx0.drew.trans hx1).trans hx2
          have hv2 := ((hx1.trans hx2).block w.heap.size (lt_of_block hv0') (by omega)).trans hv0'
          have q0 := two_cell0 hv2
          have q1 := two_free hv2 0
          have HB : Put (RB B M s t1 x (w2.setCell ⟨w.heap.size, 0, none⟩ (.int .i64 0))) := ⟨hb2.set_other (by show w.heap.size ≠ B; omega) (by show w.heap.size ≠ M; omega) _⟩
          have HX : Put (Ex B w (w2.setCell ⟨w.heap.size, 0, none⟩ (.int .i64 0))) := ⟨hX.setCell (.inr (Nat.le_refl _)) _⟩
          clear hb1 hb2 hx1 hx2 hX hv2
          go_wp2
          go_step3
          show ∃ m, JV B M s w x t.n t.nr t.at_ V (false, t1) 0 m _ _
          exact ⟨0, .inl ⟨rfl, rfl, ⟨rfl, rfl⟩, rfl, HB.out, HX.out⟩⟩
      | some g =>
        simp only [h2] at hp
        have hg := (num_le h2).2
        have l2 : t1.adv.at_ ≤ s.size := num_lt h2
        have n2 : t1.adv.at_ = t1.at_ + 1 := rfl
        generalize ht2 : t1.adv = t2 at *
        have s2 : t2.n = t.n ∧ t2.nr = t.nr := by rw [← ht2, ← ht1]; exact ⟨rfl, rfl⟩
        go_wp2_with fail
        go_region_law ((go_simp; go_at_call 74; refine (take_yes' (97 + t.n) k1 HW.out hs (by omega) hb0.drew h1).mono ?_; rintro e w1 ⟨rfl, hb1, hx1⟩))
        all_goals
          rw [ht1] at hb1
          go_wp2_with fail
          refine (digit_yes 1 g hs (by omega) hb1 h2).mono ?_; rintro e w2 ⟨rfl, hb2, hx2⟩
          rw [ht2] at hb2
          have hX := (hx0.drew.trans hx1).trans hx2
          have hv2 := ((hx1.trans hx2).block w.heap.size (lt_of_block hv0') (by omega)).trans hv0'
          have q0 := two_cell0 hv2
          have q1 := two_free hv2 0
          have hb3 := hb2.set_other (p := ⟨w.heap.size, 0, none⟩) (by show w.heap.size ≠ B; omega) (by show w.heap.size ≠ M; omega) (.int .i64 (g : Int))
          have hx3 := hX.setCell (p := ⟨w.heap.size, 0, none⟩) (.inr (Nat.le_refl _)) (.int .i64 (g : Int))
          have hv3 := two_setCell0 (y := .int .i64 (g : Int)) hv2
          have HS3 : Put (RB B M s t2 x (w2.setCell ⟨w.heap.size, 0, none⟩ (.int .i64 (g : Int)))) := ⟨hb3⟩
          clear hb1 hb2 hx1 hx2 hX hv2 hb3
          cases h3 : num? s t2.at_ 61 0 0 with
          | none =>
            simp only [h3, Prod.mk.injEq] at hp
            obtain ⟨rfl, rfl⟩ := hp
            go_wp2_with fail
            refine (take_no 61 hs l2 (by omega) HS3.out h3).mono ?_; rintro e w4 ⟨rfl, hb4, hx4⟩
            go_wp2
            go_step3
            show ∃ m, JV B M s w x t.n t.nr t.at_ V (false, t2) 0 m _ _
            exact ⟨0, .inl ⟨rfl, rfl, ⟨rfl, rfl⟩, rfl, hb4, hx3.trans hx4⟩⟩
          | some k3 =>
            simp only [h3] at hp
            have l3 : t2.adv.at_ ≤ s.size := num_lt h3
            have n3 : t2.adv.at_ = t2.at_ + 1 := rfl
            have m3 : t2.adv.n = t2.n ∧ t2.adv.nr = t2.nr := ⟨rfl, rfl⟩
            cases h4 : num? s t2.adv.at_ 48 0 3 with
            | none =>
              simp only [h4, Prod.mk.injEq] at hp
              obtain ⟨rfl, rfl⟩ := hp
              go_wp2_with fail
              refine (take_yes 61 k3 hs (by omega) HS3.out h3).mono ?_; rintro e w4 ⟨rfl, hb4, hx4⟩
              go_wp2_with fail
              refine (digit_no 0 hs l3 (by omega) hb4 h4).mono ?_; rintro e w5 ⟨rfl, hb5, hx5⟩
              go_wp2
              go_step3
              show ∃ m, JV B M s w x t.n t.nr t.at_ V (false, t2.adv) 0 m _ _
              exact ⟨0, .inl ⟨rfl, rfl, ⟨rfl, rfl⟩, rfl, hb5, (hx3.trans hx4).trans hx5⟩⟩
            | some v =>
              simp only [h4, Prod.mk.injEq] at hp
              obtain ⟨rfl, rfl⟩ := hp
              have HL0 : Put (V = (g, [] ++ fOf s 4 v t2.adv.adv.at_)) := ⟨by
                rw [← HVV.out]
                refine vOf_eq ?_ ?_ ?_
                · rw [← n1]; exact h2
                · rw [show t.at_ + 3 = t2.adv.at_ by omega]; exact h4
                · show t2.at_ + 1 + 1 = _; omega⟩
              have hv := (num_le h4).2
              have l4 : t2.adv.adv.at_ ≤ s.size := num_lt h4
              go_wp2_with fail
              refine (take_yes 61 k3 hs (by omega) HS3.out h3).mono ?_; rintro e w4 ⟨rfl, hb4, hx4⟩
              go_wp2_with fail
              refine (digit_yes 0 v hs (by omega) hb4 h4).mono ?_; rintro e w5 ⟨rfl, hb5, hx5⟩
              have hX := hx4.trans hx5
              have hv5 := (hX.block w.heap.size (lt_of_block hv3) (by omega)).trans hv3
              go_wp2
              apply wp_label
              rename_i hK
              refine hK _ _ (ih 1 _ _ ⟨4, .inr ⟨rfl, v, g, 0, [], t2.adv.adv, ⟨rfl, rfl, rfl, rfl, rfl⟩, rfl, HL0, ⟨BitsL.nil⟩, hv, hg, by omega, by show t.at_ ≤ t2.at_ + 1 + 1; omega, by show 1 ≤ t2.at_ + 1 + 1; omega, l4, s2.1, s2.2, hb5, hx3.trans hX, hv5⟩⟩)
end
end Go.Proofs.YtgoebckimmofoaaGreatDoor

/- The code's reader: the whole model. Our own text. -/
namespace Go.Proofs.YtgoebckimmofoaaGreatDoor
open Go.RowKit Go.Lib

def pRun (s : ByteArray) : Nat → Nat → T → Nat × Nat
  | 0, _, t => (2, t.at_)
  | f + 1, 1, t => match pVar s t with
    | (false, t') => (2, t'.at_)
    | (true, t') => if t'.n < 3 then (match num? s t'.at_ 44 0 0 with
        | some _ => pRun s f 1 t'.adv
        | none => pRun s f 2 t') else pRun s f 2 t'
  | f + 1, 2, t => if t.at_ = s.size then (t.flt, t.plc) else if t.nr = 8 then (2, t.at_) else match num? s t.at_ 59 0 0 with
    | none => (2, t.at_)
    | some _ => match num? s t.adv.at_ 58 0 0 with
      | some _ => pRun s f 3 t.adv.adv
      | none => pRun s f 4 t.adv
  | f + 1, 3, t => match pChange s t with
    | (false, t') => (2, t'.at_)
    | (true, t') => match num? s t'.at_ 44 0 0 with
      | some _ => pRun s f 3 t'.adv
      | none => pRun s f 2 { t' with nr := t'.nr + 1, chd := 0 }
  | f + 1, 4, t => match pCond s t with
    | (false, t') => (2, t'.at_)
    | (true, t') => match num? s t'.at_ 38 0 0 with
      | some _ => pRun s f 4 t'.adv
      | none => match num? s t'.at_ 58 0 0 with
        | none => (2, t'.at_)
        | some _ => pRun s f 3 t'.adv
  | _ + 1, _, t => (2, t.at_)

theorem pRun_2 (s : ByteArray) (f : Nat) (t : T) : pRun s (f + 1) 2 t = if t.at_ = s.size then (t.flt, t.plc) else if t.nr = 8 then (2, t.at_) else match num? s t.at_ 59 0 0 with
    | none => (2, t.at_)
    | some _ => match num? s t.adv.at_ 58 0 0 with
      | some _ => pRun s f 3 t.adv.adv
      | none => pRun s f 4 t.adv := by rw [pRun]
theorem frameM (a : Act) (p0 : Value) (h : a.tmps.size = 67) (hd : a.defers = []) (h0 : a.tmps.getD 0 undef = p0) : ∃ u : Nat → Value, a = { tmps := #[p0, u 1, u 2, u 3, u 4, u 5, u 6, u 7, u 8, u 9, u 10, u 11, u 12, u 13, u 14, u 15, u 16, u 17, u 18, u 19, u 20, u 21, u 22, u 23, u 24, u 25, u 26, u 27, u 28, u 29, u 30, u 31, u 32, u 33, u 34, u 35, u 36, u 37, u 38, u 39, u 40, u 41, u 42, u 43, u 44, u 45, u 46, u 47, u 48, u 49, u 50, u 51, u 52, u 53, u 54, u 55, u 56, u 57, u 58, u 59, u 60, u 61, u 62, u 63, u 64, u 65, u 66], defers := [] } := by
  obtain ⟨x, d⟩ := a
  refine ⟨fun i => x.getD i undef, ?_⟩
  simp only at h hd h0
  subst hd h0
  have := frame_of x 67 h
  exact congrArg (fun y => Act.mk y []) this

/-- What a reading is held against: whatever goes on at each label. -/
structure Ghost (s : ByteArray) (P : Nat → T → List V2 → List (Tm × Tm) → List Chg → List RA → Prop) : Prop where
  v1 : ∀ {t t' : T} {vs : List V2} {k : Nat}, P 1 t vs [] [] [] → pVar s t = (true, t') → t'.n < 3 → num? s t'.at_ 44 0 0 = some k → P 1 t'.adv (vs ++ [vOf s t.at_]) [] [] []
  v2 : ∀ {t t' : T} {vs : List V2}, P 1 t vs [] [] [] → pVar s t = (true, t') → (t'.n < 3 → num? s t'.at_ 44 0 0 = none) → P 2 t' (vs ++ [vOf s t.at_]) [] [] []
  r3 : ∀ {t : T} {vs : List V2} {rl : List RA} {k k2 : Nat}, P 2 t vs [] [] rl → num? s t.at_ 59 0 0 = some k → num? s t.adv.at_ 58 0 0 = some k2 → P 3 t.adv.adv vs [] [] rl
  r4 : ∀ {t : T} {vs : List V2} {rl : List RA} {k : Nat}, P 2 t vs [] [] rl → num? s t.at_ 59 0 0 = some k → num? s t.adv.at_ 58 0 0 = none → P 4 t.adv vs [] [] rl
  c4 : ∀ {t t' : T} {vs : List V2} {cl : List (Tm × Tm)} {rl : List RA} {k : Nat}, P 4 t vs cl [] rl → pCond s t = (true, t') → num? s t'.at_ 38 0 0 = some k → P 4 t'.adv vs (cl ++ [cdOf s t.at_]) [] rl
  c3 : ∀ {t t' : T} {vs : List V2} {cl : List (Tm × Tm)} {rl : List RA} {k : Nat}, P 4 t vs cl [] rl → pCond s t = (true, t') → num? s t'.at_ 38 0 0 = none → num? s t'.at_ 58 0 0 = some k → P 3 t'.adv vs (cl ++ [cdOf s t.at_]) [] rl
  d3 : ∀ {t t' : T} {vs : List V2} {cl : List (Tm × Tm)} {dl : List Chg} {rl : List RA} {k : Nat}, P 3 t vs cl dl rl → pChange s t = (true, t') → num? s t'.at_ 44 0 0 = some k → P 3 t'.adv vs cl (dl ++ [chOf s t.at_]) rl
  d2 : ∀ {t t' : T} {vs : List V2} {cl : List (Tm × Tm)} {dl : List Chg} {rl : List RA}, P 3 t vs cl dl rl → pChange s t = (true, t') → num? s t'.at_ 44 0 0 = none → P 2 { t' with nr := t'.nr + 1, chd := 0 } vs [] [] (rl ++ [(cl, dl ++ [chOf s t.at_])])
theorem Ghost.any (s : ByteArray) : Ghost s (fun _ _ _ _ _ _ => True) where
  v1 _ _ _ _ := trivial
  v2 _ _ _ := trivial
  r3 _ _ _ := trivial
  r4 _ _ _ := trivial
  c4 _ _ _ := trivial
  c3 _ _ _ _ := trivial
  d3 _ _ _ := trivial
  d2 _ _ _ := trivial

/-- What holds at the labels of 'model'. -/
def JMb (B M : Nat) (s : ByteArray) (P : Nat → T → List V2 → List (Tm × Tm) → List Chg → List RA → Prop) (w0 : World) (R : Nat × Nat) (l m : Nat) (w' : World) : Prop :=
  (l = 0 ∧ m = 0 ∧ ∃ t, Fail B M s t w0 w' ∧ R = (2, t.at_)) ∨
  (∃ (t : T) (x : Junk) (N : Nat) (vs : List V2) (cl : List (Tm × Tm)) (dl : List Chg) (rl : List RA), St B M N s vs t x cl dl rl w0 w' ∧ t.at_ ≤ s.size ∧ s.size + 1 ≤ t.at_ + m ∧ t.chd < 8 ∧ R = pRun s m l t ∧ Put (P l t vs cl dl rl) ∧
    ((l = 1 ∧ t.n < 3 ∧ cl = [] ∧ dl = [] ∧ rl = []) ∨ (l = 2 ∧ cl = [] ∧ dl = []) ∨ (l = 3 ∧ rl.length < 8) ∨ (l = 4 ∧ rl.length < 8 ∧ dl = [])))
def JM (B M : Nat) (s : ByteArray) (P : Nat → T → List V2 → List (Tm × Tm) → List Chg → List RA → Prop) (w0 : World) (R : Nat × Nat) (l m : Nat) (a : Act) (w' : World) : Prop :=
  (a.tmps.size = 67 ∧ a.defers = [] ∧ a.tmps.getD 0 undef = .pointer (some ⟨B, 0, none⟩)) ∧ JMb B M s P w0 R l m w'

section
variable {B M N : Nat} {s : ByteArray} {t : T} {x : Junk} {w0 w : World} {P : Nat → T → List V2 → List (Tm × Tm) → List Chg → List RA → Prop}
set_option maxRecDepth 100000 in
set_option maxHeartbeats 3200000 in
theorem model_any {R : Nat × Nat} (hs : s.size ≤ 120) (hG : Ghost s P) (hat : t.at_ ≤ s.size) (hn : t.n < 3) (hcd : t.chd < 8) (h : St B M N s [] t x [] [] [] w0 w) (hP : P 1 t [] [] [] []) (hp : R = pRun s (s.size + 1) 1 t) :
    Calls Tryz.prog 46 #[.pointer (some ⟨B, 0, none⟩)] w fun e w' => ∃ b, e = .returned (.bool b) ∧ Done b (∃ t', Fail B M s t' w0 w' ∧ R = (2, t'.at_)) (∃ t' x' N vs rl, St B M N s vs t' x' [] [] rl w0 w' ∧ R = (t'.flt, t'.plc) ∧ P 2 t' vs [] [] rl ∧ t'.at_ = s.size) := by
  have HG : Put (Ghost s P) := ⟨hG⟩
  have HJ0 : Put (JMb B M s P w0 R 1 (s.size + 1) w) := ⟨.inr ⟨t, x, N, [], [], [], [], h, hat, by omega, hcd, hp, ⟨hP⟩, .inl ⟨rfl, hn, rfl, rfl, rfl⟩⟩⟩
  clear h hG hP hp hat hn hcd
  go_enter Tryz.func46, Tryz.ntmps46
  go_wp2_with fail
  refine wp_scope_rest (JM B M s P w0 R) ?hf ?pass ?first
  case hf =>
    rintro l m a w' ⟨_, (⟨rfl, _⟩ | ⟨_, _, _, _, _, _, _, _, _, _, _, _, _, (⟨rfl, _⟩ | ⟨rfl, _⟩ | ⟨rfl, _⟩ | ⟨rfl, _⟩)⟩)⟩
    · rfl
    · rfl
    · rfl
    · rfl
    · rfl
  case first =>
    intro ih
    go_wp2
    apply wp_label
    rename_i hK
    exact hK _ _ (ih 1 _ _ ⟨s.size + 1, ⟨rfl, rfl, rfl⟩, HJ0.out⟩)
  case pass =>
    clear HJ0
    rintro m ih l a w' ⟨⟨fz, fd, f0⟩, (⟨rfl, rfl, t1, hF, hRr⟩ | ⟨t1, x1, N, vs, cl, dl, rl, hS, hat, hm, hcd, hRr, HP, (⟨rfl, hn, rfl, rfl, rfl⟩ | ⟨rfl, rfl, rfl⟩ | ⟨rfl, hnr⟩ | ⟨rfl, hnr, rfl⟩)⟩)⟩
    all_goals obtain ⟨u, rfl⟩ := frameM a _ fz fd f0
    all_goals clear fz fd f0
    · show Code.wp Tryz.prog (.seq (.region _ _ _) .ret) _ _ _
      have FIN : Put (∃ t', Fail B M s t' w0 w' ∧ R = (2, t'.at_)) := ⟨t1, hF, hRr⟩
      clear hF hRr
      go_wp2
      rw [jumps_ret]
      go_ret
      exact ⟨false, rfl, FIN.out⟩
    all_goals
      obtain ⟨m', rfl⟩ : ∃ m', m = m' + 1 := ⟨m - 1, by omega⟩
      first | rw [pRun_2] at hRr | unfold pRun at hRr
      have HS : Put (_) := ⟨hS⟩
      clear hS
    · show Code.wp Tryz.prog (.seq _ _) _ _ _
      cases hv : pVar s t1 with
      | mk b t2 =>
        have sv := pVar_same hv hat
        have HV := var_any hs hat hn HS.out hv
        have HVP : Put (_) := ⟨HV⟩
        clear HV
        cases b with
        | false =>
          simp only [hv] at hRr
          go_wp2_with fail
          refine HVP.out.mono ?_; rintro e w1 ⟨rfl, hF⟩
          have hF' : Fail B M s t2 w0 w1 := hF
          have HJ : Put (JMb B M s P w0 R 0 0 w1) := ⟨.inl ⟨rfl, rfl, t2, hF', hRr⟩⟩
          clear hF hF' HS HVP
          go_wp2
          go_step3
          show ∃ m'', m'' < m' + 1 ∧ JM B M s P w0 R 0 m'' _ _
          exact ⟨0, Nat.succ_pos _, ⟨rfl, rfl, rfl⟩, HJ.out⟩
        | true =>
          have s5 := sv.2.2.2.2 rfl
          simp only [hv] at hRr
          by_cases hn3 : t2.n < 3
          · rw [if_pos hn3] at hRr
            have hn3' : (t2.n : Int) < 3 := by omega
            cases h1 : num? s t2.at_ 44 0 0 with
            | some k =>
              simp only [h1] at hRr
              go_wp2_with fail
              refine HVP.out.mono ?_; rintro e w1 ⟨rfl, x2, h2⟩
              have H2 : Put (St B M N s (vs ++ [vOf s t1.at_]) t2 x2 [] [] [] w0 w1) := ⟨h2⟩
              have c2 := H2.out.rb.c2
              have m6 := H2.out.rb.m6
              clear h2
              go_wp2_with fail
              refine (take_yes 44 k hs (by omega) H2.out.rb h1).mono ?_; rintro e w2 ⟨rfl, hb3, hx3⟩
              have HJ : Put (JMb B M s P w0 R 1 m' w2) := ⟨.inr ⟨t2.adv, x2, N, _, [], [], [], H2.out.ex hb3 hx3 (Nat.le_succ _) rfl rfl, num_lt h1, by show s.size + 1 ≤ t2.at_ + 1 + m'; omega, by show t2.chd < 8; omega, hRr, ⟨HG.out.v1 HP.out hv hn3 h1⟩, .inl ⟨rfl, hn3, rfl, rfl, rfl⟩⟩⟩
              clear c2 m6 hb3 hx3 H2 HS HVP
              go_wp2
              go_step3
              show ∃ m'', m'' < m' + 1 ∧ JM B M s P w0 R 1 m'' _ _
              exact ⟨m', Nat.lt_succ_self _, ⟨rfl, rfl, rfl⟩, HJ.out⟩
            | none =>
              simp only [h1] at hRr
              go_wp2_with fail
              refine HVP.out.mono ?_; rintro e w1 ⟨rfl, x2, h2⟩
              have H2 : Put (St B M N s (vs ++ [vOf s t1.at_]) t2 x2 [] [] [] w0 w1) := ⟨h2⟩
              have c2 := H2.out.rb.c2
              have m6 := H2.out.rb.m6
              clear h2
              go_wp2_with fail
              refine (take_no 44 hs sv.2.2.2.1 (by omega) H2.out.rb h1).mono ?_; rintro e w2 ⟨rfl, hb3, hx3⟩
              have HJ : Put (JMb B M s P w0 R 2 m' w2) := ⟨.inr ⟨t2, x2, N, _, [], [], [], H2.out.ex hb3 hx3 (Nat.le_refl _) rfl rfl, sv.2.2.2.1, by omega, by omega, hRr, ⟨HG.out.v2 HP.out hv (fun _ => h1)⟩, .inr (.inl ⟨rfl, rfl, rfl⟩)⟩⟩
              clear c2 m6 hb3 hx3 H2 HS HVP
              go_wp2
              apply wp_label
              first | (rename_i hK; exact hK _ _ (ih 2 _ _ ⟨m', Nat.lt_succ_self _, ⟨rfl, rfl, rfl⟩, HJ.out⟩)) | (rename_i hK _; exact hK _ _ (ih 2 _ _ ⟨m', Nat.lt_succ_self _, ⟨rfl, rfl, rfl⟩, HJ.out⟩)) | (rename_i hK _ _; exact hK _ _ (ih 2 _ _ ⟨m', Nat.lt_succ_self _, ⟨rfl, rfl, rfl⟩, HJ.out⟩))
          · rw [if_neg hn3] at hRr
            have hn3' : ¬ (t2.n : Int) < 3 := by omega
            go_wp2_with fail
            refine HVP.out.mono ?_; rintro e w1 ⟨rfl, x2, h2⟩
            have H2 : Put (St B M N s (vs ++ [vOf s t1.at_]) t2 x2 [] [] [] w0 w1) := ⟨h2⟩
            have c2 := H2.out.rb.c2
            have m6 := H2.out.rb.m6
            have HJ : Put (JMb B M s P w0 R 2 m' w1) := ⟨.inr ⟨t2, x2, N, _, [], [], [], H2.out, sv.2.2.2.1, by omega, by omega, hRr, ⟨HG.out.v2 HP.out hv (fun h => absurd h hn3)⟩, .inr (.inl ⟨rfl, rfl, rfl⟩)⟩⟩
            clear h2 H2 HS HVP
            go_wp2
            apply wp_label
            first | (rename_i hK; exact hK _ _ (ih 2 _ _ ⟨m', Nat.lt_succ_self _, ⟨rfl, rfl, rfl⟩, HJ.out⟩)) | (rename_i hK _; exact hK _ _ (ih 2 _ _ ⟨m', Nat.lt_succ_self _, ⟨rfl, rfl, rfl⟩, HJ.out⟩)) | (rename_i hK _ _; exact hK _ _ (ih 2 _ _ ⟨m', Nat.lt_succ_self _, ⟨rfl, rfl, rfl⟩, HJ.out⟩))
    · show Code.wp Tryz.prog (.seq _ _) _ _ _
      obtain ⟨ao, cap, hvr⟩ : ∃ ao cap, x1.vr = .slice ao t1.nr cap := by obtain ⟨xs, h, _⟩ := HS.out.rw.r; rw [HS.out.nr]; exact owned_slice' h
      have hE := ratEnd hat HS.out.rb
      by_cases he : t1.at_ = s.size
      · rw [if_pos he] at hRr
        rw [decide_eq_true he] at hE
        go_wp2_with fail
        refine hE.mono ?_; rintro e w2 ⟨rfl, hb2, hx2⟩
        have FIN : Put (∃ t' x' N vs rl, St B M N s vs t' x' [] [] rl w0 w2 ∧ R = (t'.flt, t'.plc) ∧ P 2 t' vs [] [] rl ∧ t'.at_ = s.size) := ⟨t1, x1, N, vs, rl, HS.out.ex hb2 hx2 (Nat.le_refl _) rfl rfl, hRr, HP.out, he⟩
        clear hb2 hx2 hE HS hvr
        go_wp2
        rw [jumps_ret]
        go_ret
        exact ⟨true, rfl, FIN.out⟩
      · rw [if_neg he] at hRr
        rw [decide_eq_false he] at hE
        by_cases h8 : t1.nr = 8
        · rw [if_pos h8] at hRr
          rw [h8] at hvr
          go_wp2_with fail
          refine hE.mono ?_; rintro e w2 ⟨rfl, hb2, hx2⟩
          have c2 := hb2.c2
          have m7 := hb2.m7
          rw [hvr] at m7
          have HJ : Put (JMb B M s P w0 R 0 0 w2) := ⟨.inl ⟨rfl, rfl, t1, HS.out.fail hb2 hx2, hRr⟩⟩
          clear hb2 hx2 hE HS hvr
          go_wp2
          go_step3
          show ∃ m'', m'' < m' + 1 ∧ JM B M s P w0 R 0 m'' _ _
          exact ⟨0, Nat.succ_pos _, ⟨rfl, rfl, rfl⟩, HJ.out⟩
        · rw [if_neg h8] at hRr
          have h8' : ((t1.nr : Int) == 8) = false := by simp; omega
          have hnr8 : rl.length < 8 := by have := HS.out.l8; have := HS.out.nr; omega
          cases h1 : num? s t1.at_ 59 0 0 with
          | none =>
            simp only [h1] at hRr
            go_wp2_with fail
            refine hE.mono ?_; rintro e w2 ⟨rfl, hb2, hx2⟩
            have c2 := hb2.c2
            have m7 := hb2.m7
            rw [hvr] at m7
            go_wp2_with fail
            refine (take_no 59 hs hat (by omega) hb2 h1).mono ?_; rintro e w3 ⟨rfl, hb3, hx3⟩
            have HJ : Put (JMb B M s P w0 R 0 0 w3) := ⟨.inl ⟨rfl, rfl, t1, HS.out.fail hb3 (hx2.trans hx3), hRr⟩⟩
            clear hb2 hx2 hb3 hx3 hE HS hvr c2 m7
            go_wp2
            go_step3
            show ∃ m'', m'' < m' + 1 ∧ JM B M s P w0 R 0 m'' _ _
            exact ⟨0, Nat.succ_pos _, ⟨rfl, rfl, rfl⟩, HJ.out⟩
          | some k1 =>
            simp only [h1] at hRr
            have l1 : t1.adv.at_ ≤ s.size := num_lt h1
            have HN1 : Put (t1.adv.at_ = t1.at_ + 1) := ⟨rfl⟩
            cases h2 : num? s t1.adv.at_ 58 0 0 with
            | some k2 =>
              simp only [h2] at hRr
              go_wp2_with fail
              refine hE.mono ?_; rintro e w2 ⟨rfl, hb2, hx2⟩
              have c2 := hb2.c2
              have m7 := hb2.m7
              rw [hvr] at m7
              go_wp2_with fail
              refine (take_yes 59 k1 hs (by omega) hb2 h1).mono ?_; rintro e w3 ⟨rfl, hb3, hx3⟩
              go_wp2_with fail
              refine (take_yes 58 k2 hs (by omega) hb3 h2).mono ?_; rintro e w4 ⟨rfl, hb4, hx4⟩
              have HJ : Put (JMb B M s P w0 R 3 m' w4) := ⟨.inr ⟨t1.adv.adv, x1, N, vs, [], [], rl, HS.out.ex hb4 ((hx2.trans hx3).trans hx4) (by show t1.at_ ≤ t1.at_ + 1 + 1; omega) rfl rfl, num_lt h2, by show s.size + 1 ≤ t1.at_ + 1 + 1 + m'; omega, hcd, hRr, ⟨HG.out.r3 HP.out h1 h2⟩, .inr (.inr (.inl ⟨rfl, hnr8⟩))⟩⟩
              clear hb2 hx2 hb3 hx3 hb4 hx4 hE HS hvr c2 m7
              go_wp2
              go_step3
              show ∃ m'', m'' < m' + 1 ∧ JM B M s P w0 R 3 m'' _ _
              exact ⟨m', Nat.lt_succ_self _, ⟨rfl, rfl, rfl⟩, HJ.out⟩
            | none =>
              simp only [h2] at hRr
              go_wp2_with fail
              refine hE.mono ?_; rintro e w2 ⟨rfl, hb2, hx2⟩
              have c2 := hb2.c2
              have m7 := hb2.m7
              rw [hvr] at m7
              go_wp2_with fail
              refine (take_yes 59 k1 hs (by omega) hb2 h1).mono ?_; rintro e w3 ⟨rfl, hb3, hx3⟩
              go_wp2_with fail
              refine (take_no 58 hs l1 (by omega) hb3 h2).mono ?_; rintro e w4 ⟨rfl, hb4, hx4⟩
              have HJ : Put (JMb B M s P w0 R 4 m' w4) := ⟨.inr ⟨t1.adv, x1, N, vs, [], [], rl, HS.out.ex hb4 ((hx2.trans hx3).trans hx4) (by show t1.at_ ≤ t1.at_ + 1; omega) rfl rfl, l1, by show s.size + 1 ≤ t1.at_ + 1 + m'; omega, hcd, hRr, ⟨HG.out.r4 HP.out h1 h2⟩, .inr (.inr (.inr ⟨rfl, hnr8, rfl⟩))⟩⟩
              clear hb2 hx2 hb3 hx3 hb4 hx4 hE HS hvr c2 m7
              go_wp2
              apply wp_label
              first | (rename_i hK; exact hK _ _ (ih 4 _ _ ⟨m', Nat.lt_succ_self _, ⟨rfl, rfl, rfl⟩, HJ.out⟩)) | (rename_i hK _; exact hK _ _ (ih 4 _ _ ⟨m', Nat.lt_succ_self _, ⟨rfl, rfl, rfl⟩, HJ.out⟩)) | (rename_i hK _ _; exact hK _ _ (ih 4 _ _ ⟨m', Nat.lt_succ_self _, ⟨rfl, rfl, rfl⟩, HJ.out⟩))
    · show Code.wp Tryz.prog (.seq _ _) _ _ _
      cases hv : pChange s t1 with
      | mk b t2 =>
        have sv := pChange_same hv hat hcd
        have HVP : Put (_) := ⟨change_any hs hat hcd HS.out hv⟩
        cases b with
        | false =>
          simp only [hv] at hRr
          go_wp2_with fail
          refine HVP.out.mono ?_; rintro e w1 ⟨rfl, hF⟩
          have hF' : Fail B M s t2 w0 w1 := hF
          have HJ : Put (JMb B M s P w0 R 0 0 w1) := ⟨.inl ⟨rfl, rfl, t2, hF', hRr⟩⟩
          clear hF hF' HS HVP
          go_wp2
          go_step3
          show ∃ m'', m'' < m' + 1 ∧ JM B M s P w0 R 0 m'' _ _
          exact ⟨0, Nat.succ_pos _, ⟨rfl, rfl, rfl⟩, HJ.out⟩
        | true =>
          have s5 := sv.2.2.2.2.2 rfl
          simp only [hv] at hRr
          cases h1 : num? s t2.at_ 44 0 0 with
          | some k =>
            simp only [h1] at hRr
            go_wp2_with fail
            refine HVP.out.mono ?_; rintro e w1 ⟨rfl, x2, h2⟩
            have H2 : Put (St B M N s vs t2 x2 cl (dl ++ [chOf s t1.at_]) rl w0 w1) := ⟨h2⟩
            clear h2
            go_wp2_with fail
            refine (take_yes 44 k hs (by omega) H2.out.rb h1).mono ?_; rintro e w2 ⟨rfl, hb3, hx3⟩
            have HJ : Put (JMb B M s P w0 R 3 m' w2) := ⟨.inr ⟨t2.adv, x2, N, vs, cl, _, rl, H2.out.ex hb3 hx3 (Nat.le_succ _) rfl rfl, num_lt h1, by show s.size + 1 ≤ t2.at_ + 1 + m'; omega, sv.2.2.2.1, hRr, ⟨HG.out.d3 HP.out hv h1⟩, .inr (.inr (.inl ⟨rfl, hnr⟩))⟩⟩
            clear hb3 hx3 H2 HS HVP
            go_wp2
            go_step3
            show ∃ m'', m'' < m' + 1 ∧ JM B M s P w0 R 3 m'' _ _
            exact ⟨m', Nat.lt_succ_self _, ⟨rfl, rfl, rfl⟩, HJ.out⟩
          | none =>
            simp only [h1] at hRr
            go_wp2_with fail
            refine HVP.out.mono ?_; rintro e w1 ⟨rfl, x2, h2⟩
            have H2 : Put (St B M N s vs t2 x2 cl (dl ++ [chOf s t1.at_]) rl w0 w1) := ⟨h2⟩
            clear h2
            go_wp2_with fail
            refine (take_no 44 hs sv.2.2.2.2.1 (by omega) H2.out.rb h1).mono ?_; rintro e w2 ⟨rfl, hb3, hx3⟩
            have H3 : Put (_) := ⟨end_any hs sv.2.2.2.2.1 hnr (H2.out.ex hb3 hx3 (Nat.le_refl _) rfl rfl)⟩
            clear hb3 hx3 H2
            go_wp2_with fail
            refine H3.out.mono ?_; rintro e w3 ⟨rfl, x3, N3, h3⟩
            have HJ : Put (JMb B M s P w0 R 2 m' w3) := ⟨.inr ⟨{ t2 with nr := t2.nr + 1, chd := 0 }, x3, N3, vs, [], [], _, h3, sv.2.2.2.2.1, by show s.size + 1 ≤ t2.at_ + m'; omega, by show 0 < 8; omega, hRr, ⟨HG.out.d2 HP.out hv h1⟩, .inr (.inl ⟨rfl, rfl, rfl⟩)⟩⟩
            clear h3 H3 HS HVP
            go_wp2
            go_step3
            show ∃ m'', m'' < m' + 1 ∧ JM B M s P w0 R 2 m'' _ _
            exact ⟨m', Nat.lt_succ_self _, ⟨rfl, rfl, rfl⟩, HJ.out⟩
    · show Code.wp Tryz.prog (.seq _ _) _ _ _
      cases hv : pCond s t1 with
      | mk b t2 =>
        have sv := pCond_same hv hat
        have HVP : Put (_) := ⟨ruleCond_any hs hat HS.out hv⟩
        cases b with
        | false =>
          simp only [hv] at hRr
          go_wp2_with fail
          refine HVP.out.mono ?_; rintro e w1 ⟨rfl, hF⟩
          have hF' : Fail B M s t2 w0 w1 := hF
          have HJ : Put (JMb B M s P w0 R 0 0 w1) := ⟨.inl ⟨rfl, rfl, t2, hF', hRr⟩⟩
          clear hF hF' HS HVP
          go_wp2
          go_step3
          show ∃ m'', m'' < m' + 1 ∧ JM B M s P w0 R 0 m'' _ _
          exact ⟨0, Nat.succ_pos _, ⟨rfl, rfl, rfl⟩, HJ.out⟩
        | true =>
          have s5 := sv.2.2.2.2.2 rfl
          simp only [hv] at hRr
          cases h1 : num? s t2.at_ 38 0 0 with
          | some k =>
            simp only [h1] at hRr
            go_wp2_with fail
            refine HVP.out.mono ?_; rintro e w1 ⟨rfl, x2, h2⟩
            have H2 : Put (St B M N s vs t2 x2 (cl ++ [cdOf s t1.at_]) [] rl w0 w1) := ⟨h2⟩
            clear h2
            go_wp2_with fail
            refine (take_yes 38 k hs (by omega) H2.out.rb h1).mono ?_; rintro e w2 ⟨rfl, hb3, hx3⟩
            have HJ : Put (JMb B M s P w0 R 4 m' w2) := ⟨.inr ⟨t2.adv, x2, N, vs, _, [], rl, H2.out.ex hb3 hx3 (Nat.le_succ _) rfl rfl, num_lt h1, by show s.size + 1 ≤ t2.at_ + 1 + m'; omega, by show t2.chd < 8; omega, hRr, ⟨HG.out.c4 HP.out hv h1⟩, .inr (.inr (.inr ⟨rfl, hnr, rfl⟩))⟩⟩
            clear hb3 hx3 H2 HS HVP
            go_wp2
            go_step3
            show ∃ m'', m'' < m' + 1 ∧ JM B M s P w0 R 4 m'' _ _
            exact ⟨m', Nat.lt_succ_self _, ⟨rfl, rfl, rfl⟩, HJ.out⟩
          | none =>
            simp only [h1] at hRr
            cases h2 : num? s t2.at_ 58 0 0 with
            | none =>
              simp only [h2] at hRr
              go_wp2_with fail
              refine HVP.out.mono ?_; rintro e w1 ⟨rfl, x2, hh2⟩
              have H2 : Put (St B M N s vs t2 x2 (cl ++ [cdOf s t1.at_]) [] rl w0 w1) := ⟨hh2⟩
              clear hh2
              go_wp2_with fail
              refine (take_no 38 hs sv.2.2.2.2.1 (by omega) H2.out.rb h1).mono ?_; rintro e w2 ⟨rfl, hb3, hx3⟩
              go_wp2_with fail
              refine (take_no 58 hs sv.2.2.2.2.1 (by omega) hb3 h2).mono ?_; rintro e w3 ⟨rfl, hb4, hx4⟩
              have HJ : Put (JMb B M s P w0 R 0 0 w3) := ⟨.inl ⟨rfl, rfl, t2, H2.out.fail hb4 (hx3.trans hx4), hRr⟩⟩
              clear hb3 hx3 hb4 hx4 H2 HS HVP
              go_wp2
              go_step3
              show ∃ m'', m'' < m' + 1 ∧ JM B M s P w0 R 0 m'' _ _
              exact ⟨0, Nat.succ_pos _, ⟨rfl, rfl, rfl⟩, HJ.out⟩
            | some k2 =>
              simp only [h2] at hRr
              go_wp2_with fail
              refine HVP.out.mono ?_; rintro e w1 ⟨rfl, x2, hh2⟩
              have H2 : Put (St B M N s vs t2 x2 (cl ++ [cdOf s t1.at_]) [] rl w0 w1) := ⟨hh2⟩
              clear hh2
              go_wp2_with fail
              refine (take_no 38 hs sv.2.2.2.2.1 (by omega) H2.out.rb h1).mono ?_; rintro e w2 ⟨rfl, hb3, hx3⟩
              go_wp2_with fail
              refine (take_yes 58 k2 hs (by omega) hb3 h2).mono ?_; rintro e w3 ⟨rfl, hb4, hx4⟩
              have HJ : Put (JMb B M s P w0 R 3 m' w3) := ⟨.inr ⟨t2.adv, x2, N, vs, _, [], rl, H2.out.ex hb4 (hx3.trans hx4) (Nat.le_succ _) rfl rfl, num_lt h2, by show s.size + 1 ≤ t2.at_ + 1 + m'; omega, by show t2.chd < 8; omega, hRr, ⟨HG.out.c3 HP.out hv h1 h2⟩, .inr (.inr (.inl ⟨rfl, hnr⟩))⟩⟩
              clear hb3 hx3 hb4 hx4 H2 HS HVP
              go_wp2
              apply wp_label
              first | (rename_i hK; exact hK _ _ (ih 3 _ _ ⟨m', Nat.lt_succ_self _, ⟨rfl, rfl, rfl⟩, HJ.out⟩)) | (rename_i hK _; exact hK _ _ (ih 3 _ _ ⟨m', Nat.lt_succ_self _, ⟨rfl, rfl, rfl⟩, HJ.out⟩)) | (rename_i hK _ _; exact hK _ _ (ih 3 _ _ ⟨m', Nat.lt_succ_self _, ⟨rfl, rfl, rfl⟩, HJ.out⟩))
end
end Go.Proofs.YtgoebckimmofoaaGreatDoor
