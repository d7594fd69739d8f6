import Derived.Test.YtgoebckimmofoaaGreatDoorRows
import Derived.WalkKit
import Derived.WalkSpells
import Derived.WalkLawsBesides
import Derived.Deep.QuietTactic
import Derived.BigQuiet
import Derived.RegionTactic
import Derived.Lib.TrailingZeros
import Derived.Laws.Bits64b
import Derived.Deep.LoopGhost
import Derived.Deep.RegionLaw
import Derived.Deep.RegionHeld3
import Derived.Stop.RegionWithIn
import Derived.Shelf.RegionOpen
import Derived.Scope
import Derived.WalkMore
import Derived.Deep.AppendLies
import Derived.Laws.IdiomStrings
import Derived.Maps.AppendAt
import Derived.RangeFuncBox
import Derived.Deep.RegionHeld
import Derived.RangeFuncNested
import Derived.RangeFuncBound
import Derived.RangeFuncCalls
import Derived.RangeFuncLeaves
import Derived.Shelf.Abstract
import Derived.OwnWalkIn
import Derived.TacticsInMore
import Derived.LoopNIn
import Derived.LoopIn
import Derived.Test.YtgoebckimmofoaaGreatDoorM1
import Derived.Test.YtgoebckimmofoaaGreatDoorM2
import Derived.Test.YtgoebckimmofoaaGreatDoorM4
import Derived.Test.YtgoebckimmofoaaGreatDoorM5
import Derived.Test.YtgoebckimmofoaaGreatDoorM6
import Derived.Test.YtgoebckimmofoaaGreatDoorM7
import Derived.Test.YtgoebckimmofoaaGreatDoorM8
import Derived.Test.YtgoebckimmofoaaGreatDoorM10
import Derived.Test.YtgoebckimmofoaaGreatDoorM11
import Derived.Test.YtgoebckimmofoaaGreatDoorM17
import Derived.Test.YtgoebckimmofoaaGreatDoorM18
import Derived.Test.YtgoebckimmofoaaGreatDoorM20
import Derived.Deep.OwnRows
/- The document's Places, walked. Our own text. -/
namespace Go.Proofs.YtgoebckimmofoaaGreatDoor
open Go.RowKit Go.Lib
/-- A condition of a formula, with its sign. -/
def cC (s : ByteArray) (c : Tm × Tm) : C7 := ⟨c.1.1, c.1.2.1, c.1.2.2, c.2.1, c.2.2.1, c.2.2.2, (byteAt s (c.1.2.2.toNat + 1) : Int)⟩
def soS (s : ByteArray) (c : Tm × Tm) (st : ByteArray) : Bool := soC (cC s c) (dgs st)
/-- All names are names of variables. -/
def Fm.Nm (nv : Nat) : Fm → Prop
  | ⟨o, c, 0, _⟩ => o = 99 → c.1.1 < (nv : Int) ∧ c.2.1 < (nv : Int)
  | ⟨_, _, 1, k⟩ => (k 0).Nm nv
  | ⟨_, _, 2, k⟩ => (k 0).Nm nv ∧ (k 1).Nm nv
  | ⟨_, _, _ + 3, _⟩ => True
theorem nm_of (nv : Nat) : ∀ t : Fm, t.Ok → ¬ (0 ≤ nmF nv t) → t.Nm nv
  | ⟨o, c, 0, _⟩, ho, h => by
    intro h9
    unfold nmF at h
    rw [if_pos h9] at h
    rcases ho with rfl | ⟨_, hc⟩
    · omega
    · unfold unnamed at h
      obtain ⟨⟨_, _, h1⟩, _, _, h2⟩ := hc
      split at h
      · omega
      · split at h
        · omega
        · exact ⟨by omega, by omega⟩
  | ⟨_, _, 1, k⟩, ho, h => nm_of nv (k 0) ho.2 h
  | ⟨_, _, 2, k⟩, ho, h => by
    unfold nmF at h
    split at h
    · omega
    · next h1 => exact ⟨nm_of nv (k 0) ho.2.1 h1, nm_of nv (k 1) ho.2.2 h⟩
  | ⟨_, _, _ + 3, _⟩, _, _ => trivial
/-- At which places a formula holds. -/
def plF (s : ByteArray) (L : List ByteArray) (loop : Nat) : Fm → List Bool
  | ⟨o, c, 0, _⟩ => L.map (fun st => if o = 84 then true else soS s c st)
  | ⟨o, _, 1, k⟩ =>
    if o = 70 then untL (List.replicate L.length true) (plF s L loop (k 0)) loop false
    else if o = 71 then untL (plF s L loop (k 0)) (List.replicate L.length false) loop true
    else if o = 33 then (plF s L loop (k 0)).map (fun x => !x)
    else (List.range L.length).map (fun i => at_ (plF s L loop (k 0)) (nxt L.length loop i))
  | ⟨o, _, 2, k⟩ =>
    if o = 85 then untL (plF s L loop (k 0)) (plF s L loop (k 1)) loop false
    else if o = 87 then untL (plF s L loop (k 0)) (plF s L loop (k 1)) loop true
    else if o = 82 then untL (plF s L loop (k 1)) (meetL (plF s L loop (k 0)) (plF s L loop (k 1))) loop true
    else if o = 38 then meetL (plF s L loop (k 0)) (plF s L loop (k 1))
    else List.zipWith (fun a b => a || b) (plF s L loop (k 0)) (plF s L loop (k 1))
  | ⟨_, _, _ + 3, _⟩ => []
theorem plF_len (s : ByteArray) (L : List ByteArray) (loop : Nat) : ∀ t : Fm, t.Ok → (plF s L loop t).length = L.length
  | ⟨o, c, 0, _⟩, _ => by simp [plF]
  | ⟨o, _, 1, k⟩, h => by
    have h0 := plF_len s L loop (k 0) h.2
    unfold plF
    split
    · rw [untL_len]; simp
    · split
      · rw [untL_len]; exact h0
      · split
        · simpa using h0
        · simp
  | ⟨o, _, 2, k⟩, h => by
    have h0 := plF_len s L loop (k 0) h.2.1
    have h1 := plF_len s L loop (k 1) h.2.2
    unfold plF
    split
    · rw [untL_len]; exact h0
    · split
      · rw [untL_len]; exact h0
      · split
        · rw [untL_len]; exact h1
        · split
          · rw [meetL_len (by omega)]; exact h0
          · simp [h0, h1]
  | ⟨_, _, _ + 3, _⟩, h => False.elim h
/-- What Places answers. -/
def PlPost (w : World) (R : List Bool) (e : Ending) (w' : World) : Prop := (∃ v, e = .returned v ∧ w'.ownsRow w.heap.size 4 1 v R.length (bls R)) ∧ Below w.heap.size w w'
section
variable {w : World} {s : ByteArray} {L : List ByteArray} {loop : Nat} {ao : Option Addr} {cap : Nat}
set_option maxRecDepth 100000 in
set_option maxHeartbeats 1600000 in
theorem places_tt (h0 : 0 < L.length) (hn : L.length ≤ 7000) :
    Calls Tryz.prog 45 #[.agg #[.int .u8 84, .int .i64 0, .int .i64 0, .int .i64 0, .int .i64 0, .int .i64 0, .int .i64 0, .int .u8 0, .slice none 0 0], .agg #[.slice ao L.length cap, .int .i64 loop]] w (PlPost w (List.replicate L.length true)) := by
  obtain ⟨j0, hi, hz0, hz1, hz2⟩ := info_parts infoB
  unfold PlPost
  have HBX : Put (_ ∧ _ ∧ _) := ⟨heap_alloc_new (w.alloc (.cells #[.int .u8 84, .int .i64 0, .int .i64 0, .int .i64 0, .int .i64 0, .int .i64 0, .int .i64 0, .int .u8 0, .slice none 0 0] 90)) (.cells #[.slice ao L.length cap, .int .i64 loop] 46), (Below.heap_alloc _ (.cells #[.slice ao L.length cap, .int .i64 loop] 46) _ (by simp)).trans (heap_alloc_new w (.cells #[.int .u8 84, .int .i64 0, .int .i64 0, .int .i64 0, .int .i64 0, .int .i64 0, .int .i64 0, .int .u8 0, .slice none 0 0] 90)), ((Below.refl w.heap.size w).alloc (Nat.le_refl _) (.cells #[.int .u8 84, .int .i64 0, .int .i64 0, .int .i64 0, .int .i64 0, .int .i64 0, .int .i64 0, .int .u8 0, .slice none 0 0] 90)).alloc (by simp) (.cells #[.slice ao L.length cap, .int .i64 loop] 46)⟩
  rw [World.size_alloc] at HBX
  go_enter Tryz.func45, Tryz.ntmps45
  go_wp2_with (at_make; refine wpList_make_full _ rfl _ _ 105 rfl w.heap.size 4 j0 _ 1 Tryz.underlying105 hi hz0 hz1 .i64 .i64 _ _ L.length rfl rfl rfl rfl (by rw [hz2]; omega) (by unfold maxLen; omega) (by simp; omega) ?_)
  intro w2 hown hgr
  rw [made_bls] at hown
  have hB2 : Below w.heap.size w w2 := HBX.out.2.2.grown hgr (by simp; omega) (fun k h => by cases h)
  have hx2 := (hgr.block (w.heap.size + 1) (by simp) (by simp)).trans HBX.out.1
  have hy2 := (hgr.block w.heap.size (by simp; omega) (by simp)).trans HBX.out.2.1
  have HO : Put (_) := ⟨hown⟩
  have HB2 : Put (_) := ⟨hB2⟩
  have HX2 : Put (_) := ⟨hx2⟩
  have HY2 : Put (_) := ⟨hy2⟩
  have o2 := (blk9 hy2).1.1
  clear hown hgr hB2 hx2 hy2 HBX
  go_wp2_with fail
  go_loopg [6] L.length (fun gk iv wr => ∃ i : Nat, iv = .int .i64 i ∧ i + gk = L.length ∧ Put (Below w.heap.size w wr) ∧ Put (wr.heap[w.heap.size]? = some (.cells #[.int .u8 84, .int .i64 0, .int .i64 0, .int .i64 0, .int .i64 0, .int .i64 0, .int .i64 0, .int .u8 0, .slice none 0 0] 90 (0, 0))) ∧ Put (wr.ownsRow w.heap.size 4 1 (.slice (some ⟨w.heap.size + 1 + 1, 0, none⟩) L.length L.length) L.length (bls (List.replicate i true ++ List.replicate gk false))))
  case atStart => exact ⟨0, rfl, by omega, HB2, HY2, HO⟩
  case round =>
    clear HB2 HO HX2 HY2 o2
    obtain ⟨i, rfl, hik, HBr, HYr, HO⟩ := hrel
    obtain ⟨⟨n0, _⟩, _⟩ := blk9 HYr.out
    by_cases hlt : i < L.length
    · have hlt' : (i : Int) < (L.length : Int) := by omega
      have k0 : (0 : Int) ≤ (i : Int) := by omega
      obtain ⟨g', rfl⟩ : ∃ g', gk = g' + 1 := ⟨gk - 1, by omega⟩
      obtain ⟨h1, h2, c1, f1, hnew⟩ := fill_at HO.out (by simp) hik true
      have HN : Put (_) := ⟨hnew⟩
      have HBn : Put (_) := ⟨HBr.out.setCell (p := ⟨w.heap.size + 1 + 1, i, none⟩) (by show w.heap.size ≤ w.heap.size + 1 + 1; omega) (.bool true)⟩
      have HYn : Put (_) := ⟨(heap_setCell_other wr ⟨w.heap.size + 1 + 1, i, none⟩ w.heap.size (.bool true) (by show w.heap.size ≠ w.heap.size + 1 + 1; omega)).trans HYr.out⟩
      clear hnew HO HBr HYr
      go_wp2_with fail
      go_region
      all_goals
        go_wp2
        go_roundg g'
        case measure => exact Nat.lt_succ_self _
        case rel => exact ⟨i + 1, by go_num, by omega, ⟨HBn.out.drew⟩, ⟨HYn.out⟩, ⟨by have := HN.out; rw [← List.replicate_succ'] at this; exact this⟩⟩
    · obtain rfl : i = L.length := by omega
      have hlt' : ¬ ((L.length : Int) < (L.length : Int)) := by omega
      obtain rfl : gk = 0 := by omega
      go_wp2
      go_ret
      exact ⟨⟨_, rfl, by have := HO.out; simpa using this⟩, HBr.out⟩
set_option maxRecDepth 100000 in
set_option maxHeartbeats 1600000 in
theorem places_c (c : C7) (F : ByteArray → Bool) (h0 : 0 < L.length) (hn : L.length ≤ 7000) (hrd : Reads w (.slice ao L.length cap) L) (HS : ∀ st ∈ L, ∀ w, Calls Tryz.prog 68 #[c.agg, .string st] w fun e w' => e = .returned (.bool (F st)) ∧ Below w.heap.size w w') :
    Calls Tryz.prog 45 #[.agg #[.int .u8 99, .int .i64 c.a0, .int .i64 c.a1, .int .i64 c.a2, .int .i64 c.b0, .int .i64 c.b1, .int .i64 c.b2, .int .u8 c.op, .slice none 0 0], .agg #[.slice ao L.length cap, .int .i64 loop]] w (PlPost w (L.map F)) := by
  obtain ⟨j0, hi, hz0, hz1, hz2⟩ := info_parts infoB
  unfold PlPost
  obtain ⟨ao', cap', e, hc⟩ := hrd
  obtain ⟨rfl, rfl⟩ : ao = ao' ∧ cap = cap' := by simpa using e
  obtain ⟨b, o, rfl, hbl, hcell⟩ := hc h0
  have HC : Put (_) := ⟨hcell⟩
  have HSo : Put (_) := ⟨HS⟩
  unfold C7.agg at HSo
  clear hc hcell HS e
  have HBX : Put (_ ∧ _ ∧ _) := ⟨heap_alloc_new (w.alloc (.cells #[.int .u8 99, .int .i64 c.a0, .int .i64 c.a1, .int .i64 c.a2, .int .i64 c.b0, .int .i64 c.b1, .int .i64 c.b2, .int .u8 c.op, .slice none 0 0] 90)) (.cells #[.slice (some ⟨b, o, none⟩) L.length cap, .int .i64 loop] 46), (Below.heap_alloc _ (.cells #[.slice (some ⟨b, o, none⟩) L.length cap, .int .i64 loop] 46) _ (by simp)).trans (heap_alloc_new w (.cells #[.int .u8 99, .int .i64 c.a0, .int .i64 c.a1, .int .i64 c.a2, .int .i64 c.b0, .int .i64 c.b1, .int .i64 c.b2, .int .u8 c.op, .slice none 0 0] 90)), ((Below.refl w.heap.size w).alloc (Nat.le_refl _) (.cells #[.int .u8 99, .int .i64 c.a0, .int .i64 c.a1, .int .i64 c.a2, .int .i64 c.b0, .int .i64 c.b1, .int .i64 c.b2, .int .u8 c.op, .slice none 0 0] 90)).alloc (by simp) (.cells #[.slice (some ⟨b, o, none⟩) L.length cap, .int .i64 loop] 46)⟩
  rw [World.size_alloc] at HBX
  go_enter Tryz.func45, Tryz.ntmps45
  go_wp2_with (at_make; refine wpList_make_full _ rfl _ _ 105 rfl w.heap.size 4 j0 _ 1 Tryz.underlying105 hi hz0 hz1 .i64 .i64 _ _ L.length rfl rfl rfl rfl (by rw [hz2]; omega) (by unfold maxLen; omega) (by simp; omega) ?_)
  intro w2 hown hgr
  rw [made_bls] at hown
  have hB2 : Below w.heap.size w w2 := HBX.out.2.2.grown hgr (by simp; omega) (fun k h => by cases h)
  have hx2 := (hgr.block (w.heap.size + 1) (by simp) (by simp)).trans HBX.out.1
  have hy2 := (hgr.block w.heap.size (by simp; omega) (by simp)).trans HBX.out.2.1
  have HO : Put (_) := ⟨hown⟩
  have HB2 : Put (_) := ⟨hB2⟩
  have HX2 : Put (_) := ⟨hx2⟩
  have HY2 : Put (_) := ⟨hy2⟩
  have o2 := (blk9 hy2).1.1
  clear hown hgr hB2 hx2 hy2 HBX
  go_wp2_with fail
  go_loopg [6] L.length (fun gk iv wr => ∃ i : Nat, iv = .int .i64 i ∧ i + gk = L.length ∧ Put (Below w.heap.size w wr) ∧ Put (wr.heap[w.heap.size]? = some (.cells #[.int .u8 99, .int .i64 c.a0, .int .i64 c.a1, .int .i64 c.a2, .int .i64 c.b0, .int .i64 c.b1, .int .i64 c.b2, .int .u8 c.op, .slice none 0 0] 90 (0, 0))) ∧ Put (wr.heap[w.heap.size + 1]? = some (.cells #[.slice (some ⟨b, o, none⟩) L.length cap, .int .i64 loop] 46 (0, 0))) ∧ Put (wr.ownsRow w.heap.size 4 1 (.slice (some ⟨w.heap.size + 1 + 1, 0, none⟩) L.length L.length) L.length (bls ((L.map F).take i ++ List.replicate gk false))))
  case atStart => exact ⟨0, rfl, by omega, HB2, HY2, HX2, HO⟩
  case round =>
    clear HB2 HO HX2 HY2 o2
    obtain ⟨i, rfl, hik, HBr, HYr, HXr, HO⟩ := hrel
    obtain ⟨⟨n0, n1, n2, n3, n4, n5, n6, n7, n8⟩, _⟩ := blk9 HYr.out
    have x0 := two_cell0 HXr.out
    by_cases hlt : i < L.length
    · have hlt' : (i : Int) < (L.length : Int) := by omega
      have k0 : (0 : Int) ≤ (i : Int) := by omega
      obtain ⟨g', rfl⟩ : ∃ g', gk = g' + 1 := ⟨gk - 1, by omega⟩
      have q := (HBr.out.cell (p := ⟨b, o + i, none⟩) hbl).trans (HC.out i hlt)
      have HCi : Put (_) := ⟨HSo.out L[i] (List.getElem_mem hlt) wr.drew⟩
      have HT : Put ((L.map F).take (i + 1) = (L.map F).take i ++ [F L[i]]) := ⟨by rw [List.take_succ_eq_append_getElem (by simpa using hlt)]; simp⟩
      generalize L[i] = st at *
      have HG : Put (∀ w3, Below wr.drew.heap.size wr.drew w3 → w3.cell? ⟨w.heap.size + 1 + 1, i, none⟩ = some (.bool false) ∧ w3.frozen? ⟨w.heap.size + 1 + 1, i, none⟩ = false ∧ (w3.setCell ⟨w.heap.size + 1 + 1, i, none⟩ (.bool (F st))).ownsRow w.heap.size 4 1 (.slice (some ⟨w.heap.size + 1 + 1, 0, none⟩) L.length L.length) L.length (bls ((L.map F).take (i + 1) ++ List.replicate g' false))) := ⟨fun w3 hb3 => by
        obtain ⟨_, _, c1, f1, hnew⟩ := fill_at (hb3.ownsRow' (show wr.drew.ownsRow _ _ _ _ _ _ from HO.out)) (by rw [List.length_take, List.length_map]; omega) hik (F st)
        rw [← HT.out] at hnew
        exact ⟨c1, f1, hnew⟩⟩
      have hlb := lt_of_block HYr.out
      have hla := lt_of_block HXr.out
      go_wp2_with fail
      go_region_law ((go_simp; go_at_call 68; refine HCi.out.mono ?_; rintro e w3 ⟨rfl, hb3⟩; obtain ⟨c1, f1, hnew⟩ := HG.out w3 hb3; have HN : Put (_) := ⟨hnew⟩; have HB3 : Put (_) := ⟨hb3⟩; clear hnew hb3))
      all_goals
        have HBn : Put (_) := ⟨(HBr.out.drew.trans (HB3.out.mono HBr.out.size)).setCell (p := ⟨w.heap.size + 1 + 1, i, none⟩) (by show w.heap.size ≤ w.heap.size + 1 + 1; omega) (.bool (F st))⟩
        have HYn : Put (_) := ⟨(heap_setCell_other w3 ⟨w.heap.size + 1 + 1, i, none⟩ w.heap.size (.bool (F st)) (by show w.heap.size ≠ w.heap.size + 1 + 1; omega)).trans ((HB3.out.block _ hlb).trans HYr.out)⟩
        have HXn : Put (_) := ⟨(heap_setCell_other w3 ⟨w.heap.size + 1 + 1, i, none⟩ (w.heap.size + 1) (.bool (F st)) (by show w.heap.size + 1 ≠ w.heap.size + 1 + 1; omega)).trans ((HB3.out.block _ hla).trans HXr.out)⟩
        clear HBr HYr HXr HO HB3
        go_wp2
        go_roundg g'
        case measure => exact Nat.lt_succ_self _
        case rel => exact ⟨i + 1, by go_num, by omega, HBn, HYn, HXn, HN⟩
    · obtain rfl : i = L.length := by omega
      have hlt' : ¬ ((L.length : Int) < (L.length : Int)) := by omega
      obtain rfl : gk = 0 := by omega
      have HE : Put ((L.map F).take L.length = L.map F) := ⟨List.take_of_length_le (by simp)⟩
      go_wp2
      go_ret
      exact ⟨⟨_, rfl, by have := HO.out; rw [HE.out] at this; simpa using this⟩, HBr.out⟩
end
end Go.Proofs.YtgoebckimmofoaaGreatDoor

/- The document's Places, walked: signs ahead. Our own text. -/
namespace Go.Proofs.YtgoebckimmofoaaGreatDoor
open Go.RowKit Go.Lib
section
variable {w : World} {L : List ByteArray} {loop : Nat} {ao : Option Addr} {cap : Nat}
theorem until_N (N : Nat) (A B : List Bool) (hA : A.length = N) (hB : B.length = N) (va vb : Value) (wk : Bool) (h0 : 0 < N) (hn : N ≤ 7000) (hl : loop < N) (ha : RdB w va A) (hb : RdB w vb B) :
    Calls Tryz.prog 69 #[va, vb, .agg #[.slice ao N cap, .int .i64 loop], .bool wk] w (PlPost w (untL A B loop wk)) := by
  subst hA
  exact until_any A B va vb ao cap loop wk h0 hn hl hB ha hb
theorem RdB.len {v : Value} {l : List Bool} {N : Nat} (h : RdB w v l) (hN : l.length = N) : ∃ g c, v = .slice (some ⟨g, 0, none⟩) N c ∧ g < w.heap.size ∧ N ≤ c := by
  subst hN
  obtain ⟨g, c, e, h1, h2, _⟩ := h
  exact ⟨g, c, e, h1, h2⟩
theorem RdB.made (w : World) (N : Nat) : RdB (w.alloc (.cells (madeCells #[Value.bool false] N) 4)) (.slice (some ⟨w.heap.size, 0, none⟩) N N) (List.replicate N false) := by
  refine ⟨w.heap.size, N, by simp, by simp, by simp, fun k hk => ?_⟩
  have h := heap_alloc_new w (.cells (madeCells #[Value.bool false] N) 4)
  simp only [List.length_replicate] at hk
  have hs : (madeCells #[Value.bool false] N)[k]? = some (.bool false) := by
    have e : (madeCells #[Value.bool false] N).toList[k]? = some (.bool false) := by rw [made_bls]; simp [bls, hk]
    simpa using e
  unfold World.cell?
  rw [h]
  simp [hs]
theorem RdB.alloc {v : Value} {l : List Bool} (h : RdB w v l) (o : Obj) : RdB (w.alloc o) v l := h.below ((Below.refl _ _).alloc (Nat.le_refl _) _)
theorem ever_N (N : Nat) (h0 : 0 < N) (hn : N ≤ 7000) :
    Calls Tryz.prog 70 #[.int .i64 N] w fun e w' => ∃ g c, e = .returned (.slice (some ⟨g, 0, none⟩) N c) ∧ RdB w' (.slice (some ⟨g, 0, none⟩) N c) (List.replicate N true) ∧ Below w.heap.size w w' := by
  refine (ever_any N hn).mono ?_
  rintro e w' ⟨⟨v, rfl, hro⟩, hb⟩
  have h := RdB.of hro (by simp; omega)
  obtain ⟨g, c, rfl, _⟩ := h.len (N := N) (by simp)
  exact ⟨g, c, rfl, h, hb⟩
set_option maxRecDepth 100000 in
set_option maxHeartbeats 1600000 in
theorem places_70 (b cp : Nat) (y0 y1 y2 y3 y4 y5 y6 y7 y8 : Value) (A : List Bool) (h0 : 0 < L.length) (hn : L.length ≤ 7000) (hl : loop < L.length) (hA : A.length = L.length) (hblk : w.heap[b]? = some (.cells #[y0, y1, y2, y3, y4, y5, y6, y7, y8] 90 (0, 0)))
    (HP : ∀ w', Below w.heap.size w w' → Calls Tryz.prog 45 #[.agg #[y0, y1, y2, y3, y4, y5, y6, y7, y8], .agg #[.slice ao L.length cap, .int .i64 loop]] w' (PlPost w' A)) :
    Calls Tryz.prog 45 #[.agg #[.int .u8 70, .int .i64 0, .int .i64 0, .int .i64 0, .int .i64 0, .int .i64 0, .int .i64 0, .int .u8 0, .slice (some ⟨b, 0, none⟩) 1 cp], .agg #[.slice ao L.length cap, .int .i64 loop]] w (PlPost w (untL (List.replicate L.length true) A loop false)) := by
  have hbl := lt_of_block hblk
  have HBlk : Put (_) := ⟨hblk⟩
  have HPl : Put (_) := ⟨HP⟩
  clear hblk HP
  obtain ⟨j0, hi, hz0, hz1, hz2⟩ := info_parts infoB
  have HBX : Put (_ ∧ _ ∧ _) := ⟨heap_alloc_new (w.alloc (.cells #[.int .u8 70, .int .i64 0, .int .i64 0, .int .i64 0, .int .i64 0, .int .i64 0, .int .i64 0, .int .u8 0, .slice (some ⟨b, 0, none⟩) 1 cp] 90)) (.cells #[.slice ao L.length cap, .int .i64 loop] 46), (Below.heap_alloc _ (.cells #[.slice ao L.length cap, .int .i64 loop] 46) _ (by simp)).trans (heap_alloc_new w (.cells #[.int .u8 70, .int .i64 0, .int .i64 0, .int .i64 0, .int .i64 0, .int .i64 0, .int .i64 0, .int .u8 0, .slice (some ⟨b, 0, none⟩) 1 cp] 90)), ((Below.refl w.heap.size w).alloc (Nat.le_refl _) (.cells #[.int .u8 70, .int .i64 0, .int .i64 0, .int .i64 0, .int .i64 0, .int .i64 0, .int .i64 0, .int .u8 0, .slice (some ⟨b, 0, none⟩) 1 cp] 90)).alloc (by simp) (.cells #[.slice ao L.length cap, .int .i64 loop] 46)⟩
  rw [World.size_alloc] at HBX
  go_enter Tryz.func45, Tryz.ntmps45
  go_wp2_with (at_make; refine wpList_make_full _ rfl _ _ 105 rfl w.heap.size 4 j0 _ 1 Tryz.underlying105 hi hz0 hz1 .i64 .i64 _ _ L.length rfl rfl rfl rfl (by rw [hz2]; omega) (by unfold maxLen; omega) (by simp; omega) ?_)
  intro w2 hown hgr
  rw [made_bls] at hown
  have hB2 : Below w.heap.size w w2 := HBX.out.2.2.grown hgr (by simp; omega) (fun k h => by cases h)
  have hx2 := (hgr.block (w.heap.size + 1) (by simp) (by simp)).trans HBX.out.1
  have hy2 := (hgr.block w.heap.size (by simp; omega) (by simp)).trans HBX.out.2.1
  have HO : Put (_) := ⟨hown⟩
  have HB2 : Put (_) := ⟨hB2⟩
  have HX2 : Put (_) := ⟨hx2⟩
  have HY2 : Put (_) := ⟨hy2⟩
  have o2 := (blk9 hy2).1.1
  have o8 := (blk9 hy2).1.2.2.2.2.2.2.2.2
  have x0 := two_cell0 hx2
  have x1 := two_cell1 hx2
  clear hown hgr hB2 hx2 hy2 HBX
  obtain ⟨⟨n0, n1, n2, n3, n4, n5, n6, n7, n8⟩, nf⟩ := blk9 ((HB2.out.block b hbl).trans HBlk.out)
  clear nf
  have HCr : Put (_) := ⟨HPl.out w2.drew HB2.out.drew⟩
  unfold PlPost at HCr
  have lx := lt_of_block HX2.out
  have ly := lt_of_block HY2.out
  have lo : w.heap.size + 1 + 1 < w2.heap.size := by
    have h := HO.out
    have e : (List.replicate L.length false).length = L.length := by simp
    obtain ⟨g, c, e', _, h2, _⟩ := bls_at (l := List.replicate L.length false) (by rw [e]; exact h) (by simp; omega)
    obtain ⟨rfl, _⟩ : w.heap.size + 1 + 1 = g ∧ _ := by simpa using e'
    exact h2
  go_wp2_with fail
  go_region_law ((go_simp; go_at_call 45; refine HCr.out.mono ?_; rintro e w3 ⟨⟨v, rfl, hro⟩, hb3⟩; obtain ⟨ga, ca, rfl, hgl, hga, hca, hcA⟩ := bls_at hro (by omega); have HB3 : Put (_) := ⟨hb3⟩; have HCA : Put (_) := ⟨hcA⟩; clear hro hb3 hcA; rw [hA]; rw [hA] at hca))
  all_goals
    have HRA : Put (RdB w3 (.slice (some ⟨ga, 0, none⟩) L.length ca) A) := ⟨ga, ca, by rw [hA], hga, by omega, HCA.out⟩
    have HBw : Put (Below w.heap.size w w3) := ⟨HB2.out.drew.trans (HB3.out.mono HB2.out.size)⟩
    have HX3 : Put (_) := ⟨(HB3.out.block _ lx).trans HX2.out⟩
    have HY3 : Put (_) := ⟨(HB3.out.block _ ly).trans HY2.out⟩
    have HO3 : Put (_) := ⟨HB3.out.ownsRow' (show w2.drew.ownsRow _ _ _ _ _ _ from HO.out)⟩
    have p2 := (blk9 HY3.out).1.1
    have p8 := (blk9 HY3.out).1.2.2.2.2.2.2.2.2
    have z0 := two_cell0 HX3.out
    have z1 := two_cell1 HX3.out
    have lz := lt_of_block HX3.out
    have HRAd : Put (RdB w3.drew (.slice (some ⟨ga, 0, none⟩) L.length ca) A) := ⟨HRA.out⟩
    have HZ : Put (∀ w4, Below w3.drew.heap.size w3.drew w4 → w4.cell? ⟨w.heap.size + 1, 0, none⟩ = some (.slice ao L.length cap) ∧ w4.cell? ⟨w.heap.size + 1, 1, none⟩ = some (.int .i64 loop) ∧ RdB w4 (.slice (some ⟨ga, 0, none⟩) L.length ca) A) := ⟨fun w4 hb4 => ⟨(hb4.cell (p := ⟨w.heap.size + 1, 0, none⟩) lz).trans z0, (hb4.cell (p := ⟨w.heap.size + 1, 1, none⟩) lz).trans z1, HRAd.out.below hb4⟩⟩
    have ly3 := lt_of_block HY3.out
    clear HO HB2 HX2 HY2 o2 o8 x0 x1 n0 n1 n2 n3 n4 n5 n6 n7 n8 HB3 HCr
    go_wp2_with fail
    go_region_law (first
      | (go_simp; go_at_call 69; refine (until_N L.length (List.replicate L.length true) A (by simp) hA _ _ false h0 hn hl HRE.out HRA4.out).mono ?_; rintro e w5 ⟨⟨v5, rfl, hro5⟩, hb5⟩; have HRO : Put (_) := ⟨hro5⟩; have HB5 : Put (_) := ⟨hb5⟩; clear hro5 hb5)
      | (go_simp; go_at_call 70; refine (ever_N L.length h0 hn).mono ?_; rintro e w4 ⟨ge, ce, rfl, hre, hb4⟩; have HRE : Put (_) := ⟨hre⟩; obtain ⟨q0, q1, hra4⟩ := HZ.out w4 hb4; have HRA4 : Put (_) := ⟨hra4⟩; have HB4 : Put (_) := ⟨hb4⟩; clear hre hb4 hra4))
    all_goals
      have hb34 : Below w.heap.size w w4 := HBw.out.drew.trans (HB4.out.mono HBw.out.size)
      have HFin : Put (PlPost w (untL (List.replicate L.length true) A loop false) (.returned v5) w5) := ⟨⟨v5, rfl, own_base HRO.out hb34.size⟩, hb34.trans (HB5.out.mono hb34.size)⟩
      clear HRO HB5 HB4 hb34
      go_wp2
      go_ret
      exact HFin.out
set_option maxRecDepth 100000 in
set_option maxHeartbeats 1600000 in
theorem places_71 (b cp : Nat) (y0 y1 y2 y3 y4 y5 y6 y7 y8 : Value) (A : List Bool) (h0 : 0 < L.length) (hn : L.length ≤ 7000) (hl : loop < L.length) (hA : A.length = L.length) (hblk : w.heap[b]? = some (.cells #[y0, y1, y2, y3, y4, y5, y6, y7, y8] 90 (0, 0)))
    (HP : ∀ w', Below w.heap.size w w' → Calls Tryz.prog 45 #[.agg #[y0, y1, y2, y3, y4, y5, y6, y7, y8], .agg #[.slice ao L.length cap, .int .i64 loop]] w' (PlPost w' A)) :
    Calls Tryz.prog 45 #[.agg #[.int .u8 71, .int .i64 0, .int .i64 0, .int .i64 0, .int .i64 0, .int .i64 0, .int .i64 0, .int .u8 0, .slice (some ⟨b, 0, none⟩) 1 cp], .agg #[.slice ao L.length cap, .int .i64 loop]] w (PlPost w (untL A (List.replicate L.length false) loop true)) := by
  have hbl := lt_of_block hblk
  have HBlk : Put (_) := ⟨hblk⟩
  have HPl : Put (_) := ⟨HP⟩
  clear hblk HP
  obtain ⟨j0, hi, hz0, hz1, hz2⟩ := info_parts infoB
  have HBX : Put (_ ∧ _ ∧ _) := ⟨heap_alloc_new (w.alloc (.cells #[.int .u8 71, .int .i64 0, .int .i64 0, .int .i64 0, .int .i64 0, .int .i64 0, .int .i64 0, .int .u8 0, .slice (some ⟨b, 0, none⟩) 1 cp] 90)) (.cells #[.slice ao L.length cap, .int .i64 loop] 46), (Below.heap_alloc _ (.cells #[.slice ao L.length cap, .int .i64 loop] 46) _ (by simp)).trans (heap_alloc_new w (.cells #[.int .u8 71, .int .i64 0, .int .i64 0, .int .i64 0, .int .i64 0, .int .i64 0, .int .i64 0, .int .u8 0, .slice (some ⟨b, 0, none⟩) 1 cp] 90)), ((Below.refl w.heap.size w).alloc (Nat.le_refl _) (.cells #[.int .u8 71, .int .i64 0, .int .i64 0, .int .i64 0, .int .i64 0, .int .i64 0, .int .i64 0, .int .u8 0, .slice (some ⟨b, 0, none⟩) 1 cp] 90)).alloc (by simp) (.cells #[.slice ao L.length cap, .int .i64 loop] 46)⟩
  rw [World.size_alloc] at HBX
  go_enter Tryz.func45, Tryz.ntmps45
  go_wp2_with (at_make; refine wpList_make_full _ rfl _ _ 105 rfl w.heap.size 4 j0 _ 1 Tryz.underlying105 hi hz0 hz1 .i64 .i64 _ _ L.length rfl rfl rfl rfl (by rw [hz2]; omega) (by unfold maxLen; omega) (by simp; omega) ?_)
  intro w2 hown hgr
  rw [made_bls] at hown
  have hB2 : Below w.heap.size w w2 := HBX.out.2.2.grown hgr (by simp; omega) (fun k h => by cases h)
  have hx2 := (hgr.block (w.heap.size + 1) (by simp) (by simp)).trans HBX.out.1
  have hy2 := (hgr.block w.heap.size (by simp; omega) (by simp)).trans HBX.out.2.1
  have HO : Put (_) := ⟨hown⟩
  have HB2 : Put (_) := ⟨hB2⟩
  have HX2 : Put (_) := ⟨hx2⟩
  have HY2 : Put (_) := ⟨hy2⟩
  have o2 := (blk9 hy2).1.1
  have o8 := (blk9 hy2).1.2.2.2.2.2.2.2.2
  have x0 := two_cell0 hx2
  have x1 := two_cell1 hx2
  clear hown hgr hB2 hx2 hy2 HBX
  obtain ⟨⟨n0, n1, n2, n3, n4, n5, n6, n7, n8⟩, nf⟩ := blk9 ((HB2.out.block b hbl).trans HBlk.out)
  clear nf
  have HCr : Put (_) := ⟨HPl.out w2.drew HB2.out.drew⟩
  unfold PlPost at HCr
  have lx := lt_of_block HX2.out
  have ly := lt_of_block HY2.out
  have lo : w.heap.size + 1 + 1 < w2.heap.size := by
    have h := HO.out
    have e : (List.replicate L.length false).length = L.length := by simp
    obtain ⟨g, c, e', _, h2, _⟩ := bls_at (l := List.replicate L.length false) (by rw [e]; exact h) (by simp; omega)
    obtain ⟨rfl, _⟩ : w.heap.size + 1 + 1 = g ∧ _ := by simpa using e'
    exact h2
  go_wp2_with fail
  go_region_law ((go_simp; go_at_call 45; refine HCr.out.mono ?_; rintro e w3 ⟨⟨v, rfl, hro⟩, hb3⟩; obtain ⟨ga, ca, rfl, hgl, hga, hca, hcA⟩ := bls_at hro (by omega); have HB3 : Put (_) := ⟨hb3⟩; have HCA : Put (_) := ⟨hcA⟩; clear hro hb3 hcA; rw [hA]; rw [hA] at hca))
  all_goals
    have HRA : Put (RdB w3 (.slice (some ⟨ga, 0, none⟩) L.length ca) A) := ⟨ga, ca, by rw [hA], hga, by omega, HCA.out⟩
    have HBw : Put (Below w.heap.size w w3) := ⟨HB2.out.drew.trans (HB3.out.mono HB2.out.size)⟩
    have HX3 : Put (_) := ⟨(HB3.out.block _ lx).trans HX2.out⟩
    have HY3 : Put (_) := ⟨(HB3.out.block _ ly).trans HY2.out⟩
    have HO3 : Put (_) := ⟨HB3.out.ownsRow' (show w2.drew.ownsRow _ _ _ _ _ _ from HO.out)⟩
    have p2 := (blk9 HY3.out).1.1
    have p8 := (blk9 HY3.out).1.2.2.2.2.2.2.2.2
    have z0 := two_cell0 HX3.out
    have z1 := two_cell1 HX3.out
    have lz := lt_of_block HX3.out
    have HRAd : Put (RdB w3.drew (.slice (some ⟨ga, 0, none⟩) L.length ca) A) := ⟨HRA.out⟩
    have HZ : Put (∀ w4, Below w3.drew.heap.size w3.drew w4 → w4.cell? ⟨w.heap.size + 1, 0, none⟩ = some (.slice ao L.length cap) ∧ w4.cell? ⟨w.heap.size + 1, 1, none⟩ = some (.int .i64 loop) ∧ RdB w4 (.slice (some ⟨ga, 0, none⟩) L.length ca) A) := ⟨fun w4 hb4 => ⟨(hb4.cell (p := ⟨w.heap.size + 1, 0, none⟩) lz).trans z0, (hb4.cell (p := ⟨w.heap.size + 1, 1, none⟩) lz).trans z1, HRAd.out.below hb4⟩⟩
    have ly3 := lt_of_block HY3.out
    clear HO HB2 HX2 HY2 o2 o8 x0 x1 n0 n1 n2 n3 n4 n5 n6 n7 n8 HB3 HCr
    have hmk := run_make_row' (P := Tryz.prog) 105 4 (.bool false) 1 Tryz.underlying105 infoB rfl .i64 .i64 L.length (by omega) (by omega)
    have HRE : Put (_) := ⟨RdB.made w3.drew L.length⟩
    have HRA4 : Put (_) := ⟨HRAd.out.alloc (.cells (madeCells #[Value.bool false] L.length) 4)⟩
    have HB4 : Put (Below w3.drew.heap.size w3.drew _) := ⟨(Below.refl _ _).alloc (Nat.le_refl _) (.cells (madeCells #[Value.bool false] L.length) 4)⟩
    go_wp2_with fail
    go_region_law (go_simp; go_at_call 69; refine (until_N L.length A (List.replicate L.length false) hA (by simp) _ _ true h0 hn hl HRA4.out HRE.out).mono ?_; rintro e w5 ⟨⟨v5, rfl, hro5⟩, hb5⟩; have HRO : Put (_) := ⟨hro5⟩; have HB5 : Put (_) := ⟨hb5⟩; clear hro5 hb5)
    all_goals
      have hb34 : Below w.heap.size w _ := HBw.out.drew.trans (HB4.out.mono HBw.out.size)
      have HFin : Put (PlPost w (untL A (List.replicate L.length false) loop true) (.returned v5) w5) := ⟨⟨v5, rfl, own_base HRO.out hb34.size⟩, hb34.trans (HB5.out.mono hb34.size)⟩
      clear HRO HB5 HB4 hb34
      go_wp2
      go_ret
      exact HFin.out
set_option maxRecDepth 100000 in
set_option maxHeartbeats 1600000 in
theorem places_33 (b cp : Nat) (y0 y1 y2 y3 y4 y5 y6 y7 y8 : Value) (A : List Bool) (h0 : 0 < L.length) (hn : L.length ≤ 7000) (_hl : loop < L.length) (hA : A.length = L.length) (hblk : w.heap[b]? = some (.cells #[y0, y1, y2, y3, y4, y5, y6, y7, y8] 90 (0, 0)))
    (HP : ∀ w', Below w.heap.size w w' → Calls Tryz.prog 45 #[.agg #[y0, y1, y2, y3, y4, y5, y6, y7, y8], .agg #[.slice ao L.length cap, .int .i64 loop]] w' (PlPost w' A)) :
    Calls Tryz.prog 45 #[.agg #[.int .u8 33, .int .i64 0, .int .i64 0, .int .i64 0, .int .i64 0, .int .i64 0, .int .i64 0, .int .u8 0, .slice (some ⟨b, 0, none⟩) 1 cp], .agg #[.slice ao L.length cap, .int .i64 loop]] w (PlPost w (A.map (fun x => !x))) := by
  have hbl := lt_of_block hblk
  have HBlk : Put (_) := ⟨hblk⟩
  have HPl : Put (_) := ⟨HP⟩
  clear hblk HP
  obtain ⟨j0, hi, hz0, hz1, hz2⟩ := info_parts infoB
  have HBX : Put (_ ∧ _ ∧ _) := ⟨heap_alloc_new (w.alloc (.cells #[.int .u8 33, .int .i64 0, .int .i64 0, .int .i64 0, .int .i64 0, .int .i64 0, .int .i64 0, .int .u8 0, .slice (some ⟨b, 0, none⟩) 1 cp] 90)) (.cells #[.slice ao L.length cap, .int .i64 loop] 46), (Below.heap_alloc _ (.cells #[.slice ao L.length cap, .int .i64 loop] 46) _ (by simp)).trans (heap_alloc_new w (.cells #[.int .u8 33, .int .i64 0, .int .i64 0, .int .i64 0, .int .i64 0, .int .i64 0, .int .i64 0, .int .u8 0, .slice (some ⟨b, 0, none⟩) 1 cp] 90)), ((Below.refl w.heap.size w).alloc (Nat.le_refl _) (.cells #[.int .u8 33, .int .i64 0, .int .i64 0, .int .i64 0, .int .i64 0, .int .i64 0, .int .i64 0, .int .u8 0, .slice (some ⟨b, 0, none⟩) 1 cp] 90)).alloc (by simp) (.cells #[.slice ao L.length cap, .int .i64 loop] 46)⟩
  rw [World.size_alloc] at HBX
  go_enter Tryz.func45, Tryz.ntmps45
  go_wp2_with (at_make; refine wpList_make_full _ rfl _ _ 105 rfl w.heap.size 4 j0 _ 1 Tryz.underlying105 hi hz0 hz1 .i64 .i64 _ _ L.length rfl rfl rfl rfl (by rw [hz2]; omega) (by unfold maxLen; omega) (by simp; omega) ?_)
  intro w2 hown hgr
  rw [made_bls] at hown
  have hB2 : Below w.heap.size w w2 := HBX.out.2.2.grown hgr (by simp; omega) (fun k h => by cases h)
  have hx2 := (hgr.block (w.heap.size + 1) (by simp) (by simp)).trans HBX.out.1
  have hy2 := (hgr.block w.heap.size (by simp; omega) (by simp)).trans HBX.out.2.1
  have HO : Put (_) := ⟨hown⟩
  have HB2 : Put (_) := ⟨hB2⟩
  have HX2 : Put (_) := ⟨hx2⟩
  have HY2 : Put (_) := ⟨hy2⟩
  have o2 := (blk9 hy2).1.1
  have o8 := (blk9 hy2).1.2.2.2.2.2.2.2.2
  have x0 := two_cell0 hx2
  have x1 := two_cell1 hx2
  clear hown hgr hB2 hx2 hy2 HBX
  obtain ⟨⟨n0, n1, n2, n3, n4, n5, n6, n7, n8⟩, nf⟩ := blk9 ((HB2.out.block b hbl).trans HBlk.out)
  clear nf
  have HCr : Put (_) := ⟨HPl.out w2.drew HB2.out.drew⟩
  unfold PlPost at HCr
  have lx := lt_of_block HX2.out
  have ly := lt_of_block HY2.out
  have lo : w.heap.size + 1 + 1 < w2.heap.size := by
    have h := HO.out
    have e : (List.replicate L.length false).length = L.length := by simp
    obtain ⟨g, c, e', _, h2, _⟩ := bls_at (l := List.replicate L.length false) (by rw [e]; exact h) (by simp; omega)
    obtain ⟨rfl, _⟩ : w.heap.size + 1 + 1 = g ∧ _ := by simpa using e'
    exact h2
  go_wp2_with fail
  go_region_law ((go_simp; go_at_call 45; refine HCr.out.mono ?_; rintro e w3 ⟨⟨v, rfl, hro⟩, hb3⟩; obtain ⟨ga, ca, rfl, hgl, hga, hca, hcA⟩ := bls_at hro (by omega); have HB3 : Put (_) := ⟨hb3⟩; have HCA : Put (_) := ⟨hcA⟩; clear hro hb3 hcA; rw [hA]; rw [hA] at hca))
  all_goals
    have HRA : Put (RdB w3 (.slice (some ⟨ga, 0, none⟩) L.length ca) A) := ⟨ga, ca, by rw [hA], hga, by omega, HCA.out⟩
    have HBw : Put (Below w.heap.size w w3) := ⟨HB2.out.drew.trans (HB3.out.mono HB2.out.size)⟩
    have HX3 : Put (_) := ⟨(HB3.out.block _ lx).trans HX2.out⟩
    have HY3 : Put (_) := ⟨(HB3.out.block _ ly).trans HY2.out⟩
    have HO3 : Put (_) := ⟨HB3.out.ownsRow' (show w2.drew.ownsRow _ _ _ _ _ _ from HO.out)⟩
    have p2 := (blk9 HY3.out).1.1
    have p8 := (blk9 HY3.out).1.2.2.2.2.2.2.2.2
    have z0 := two_cell0 HX3.out
    have z1 := two_cell1 HX3.out
    have lz := lt_of_block HX3.out
    have HRAd : Put (RdB w3.drew (.slice (some ⟨ga, 0, none⟩) L.length ca) A) := ⟨HRA.out⟩
    have HZ : Put (∀ w4, Below w3.drew.heap.size w3.drew w4 → w4.cell? ⟨w.heap.size + 1, 0, none⟩ = some (.slice ao L.length cap) ∧ w4.cell? ⟨w.heap.size + 1, 1, none⟩ = some (.int .i64 loop) ∧ RdB w4 (.slice (some ⟨ga, 0, none⟩) L.length ca) A) := ⟨fun w4 hb4 => ⟨(hb4.cell (p := ⟨w.heap.size + 1, 0, none⟩) lz).trans z0, (hb4.cell (p := ⟨w.heap.size + 1, 1, none⟩) lz).trans z1, HRAd.out.below hb4⟩⟩
    have ly3 := lt_of_block HY3.out
    clear HO HB2 HX2 HY2 o2 o8 x0 x1 n0 n1 n2 n3 n4 n5 n6 n7 n8 HB3 HCr
    have HCk : Put (∀ k, k < L.length → w3.cell? ⟨ga, k, none⟩ = some (.bool (at_ A k))) := ⟨fun k hk => by rw [HCA.out k (by omega), at_get (by omega)]⟩
    have ngo : ¬ (ga = w.heap.size + 1 + 1) := by have : w2.heap.size ≤ ga := hgl; omega
    obtain ⟨RL, hRL⟩ : ∃ RL, RL = A.map (fun x => !x) := ⟨_, rfl⟩
    have HRl : Put (RL.length = L.length) := ⟨by rw [hRL]; simp [hA]⟩
    have HRg : Put (∀ i, i < L.length → RL.take (i + 1) = RL.take i ++ [!at_ A i]) := ⟨fun i hi => by
      rw [List.take_succ_eq_append_getElem (by rw [HRl.out]; exact hi)]
      simp [hRL, at_get (l := A) (k := i) (by omega)]⟩
    have HRL : Put (_ = _) := ⟨hRL⟩
    clear hRL HCA hgl
    go_wp2_with fail
    go_loopg [9] L.length (fun gk iv wr => ∃ i : Nat, iv = .int .i64 i ∧ i + gk = L.length ∧ Put (Below w.heap.size w wr) ∧ Put (wr.heap[w.heap.size]? = some (.cells #[.int .u8 33, .int .i64 0, .int .i64 0, .int .i64 0, .int .i64 0, .int .i64 0, .int .i64 0, .int .u8 0, .slice (some ⟨b, 0, none⟩) 1 cp] 90 (0, 0))) ∧ Put (wr.heap[w.heap.size + 1]? = some (.cells #[.slice ao L.length cap, .int .i64 loop] 46 (0, 0))) ∧ Put (∀ k, k < L.length → wr.cell? ⟨ga, k, none⟩ = some (.bool (at_ A k))) ∧ Put (wr.ownsRow w.heap.size 4 1 (.slice (some ⟨w.heap.size + 1 + 1, 0, none⟩) L.length L.length) L.length (bls (RL.take i ++ List.replicate gk false))) ∧ ga < wr.heap.size)
    case atStart => exact ⟨0, rfl, by omega, HBw, HY3, HX3, HCk, HO3, hga⟩
    case round =>
      clear HBw HY3 HX3 HCk HO3 p2 p8 z0 z1 lz ly3 HRA HRAd HZ hga
      obtain ⟨i, rfl, hik, HBr, HYr, HXr, HCr, HO, hga⟩ := hrel
      obtain ⟨⟨n0, _⟩, _⟩ := blk9 HYr.out
      by_cases hlt : i < L.length
      · have hlt' : (i : Int) < (L.length : Int) := by omega
        have k0 : (0 : Int) ≤ (i : Int) := by omega
        obtain ⟨g', rfl⟩ : ∃ g', gk = g' + 1 := ⟨gk - 1, by omega⟩
        have q := HCr.out i hlt
        have HT : Put (_ = _) := ⟨HRg.out i hlt⟩
        obtain ⟨h1, h2, c1, f1, hnew⟩ := fill_at HO.out (by rw [List.length_take, HRl.out]; omega) hik (!at_ A i)
        rw [← HT.out] at hnew
        have HN : Put (_) := ⟨hnew⟩
        have HBn : Put (_) := ⟨HBr.out.setCell (p := ⟨w.heap.size + 1 + 1, i, none⟩) (by show w.heap.size ≤ w.heap.size + 1 + 1; omega) (.bool (!at_ A i))⟩
        have HYn : Put (_) := ⟨(heap_setCell_other wr ⟨w.heap.size + 1 + 1, i, none⟩ w.heap.size (.bool (!at_ A i)) (by show w.heap.size ≠ w.heap.size + 1 + 1; omega)).trans HYr.out⟩
        have HXn : Put (_) := ⟨(heap_setCell_other wr ⟨w.heap.size + 1 + 1, i, none⟩ (w.heap.size + 1) (.bool (!at_ A i)) (by show w.heap.size + 1 ≠ w.heap.size + 1 + 1; omega)).trans HXr.out⟩
        have HCn : Put (∀ k, k < L.length → (wr.setCell ⟨w.heap.size + 1 + 1, i, none⟩ (.bool (!at_ A i))).cell? ⟨ga, k, none⟩ = some (.bool (at_ A k))) := ⟨fun k hk => by
          rw [← HCr.out k hk]; unfold World.cell?; rw [heap_setCell_other _ _ _ _ (by show ga ≠ w.heap.size + 1 + 1; omega)]⟩
        clear hnew HO HBr HYr HXr HCr HT
        generalize at_ A i = x at *
        go_wp2
        go_roundg g'
        case measure => exact Nat.lt_succ_self _
        case rel => exact ⟨i + 1, by go_num, by omega, HBn, HYn, HXn, HCn, HN, by simpa using hga⟩
      · obtain rfl : i = L.length := by omega
        have hlt' : ¬ ((L.length : Int) < (L.length : Int)) := by omega
        obtain rfl : gk = 0 := by omega
        have HE : Put (RL.take L.length = RL) := ⟨List.take_of_length_le (by rw [HRl.out]; exact Nat.le_refl _)⟩
        have HFin : Put (PlPost w (A.map (fun x => !x)) (.returned (.slice (some ⟨w.heap.size + 1 + 1, 0, none⟩) L.length L.length)) wr) := ⟨by rw [← HRL.out]; exact ⟨⟨_, rfl, by have := HO.out; rw [HE.out] at this; rw [HRl.out]; simpa using this⟩, HBr.out⟩⟩
        clear HE HO HBr HYr HXr HCr
        go_wp2
        go_ret
        exact HFin.out
set_option maxRecDepth 100000 in
set_option maxHeartbeats 1600000 in
theorem places_88 (b cp : Nat) (y0 y1 y2 y3 y4 y5 y6 y7 y8 : Value) (A : List Bool) (h0 : 0 < L.length) (hn : L.length ≤ 7000) (hl : loop < L.length) (hA : A.length = L.length) (hblk : w.heap[b]? = some (.cells #[y0, y1, y2, y3, y4, y5, y6, y7, y8] 90 (0, 0)))
    (HP : ∀ w', Below w.heap.size w w' → Calls Tryz.prog 45 #[.agg #[y0, y1, y2, y3, y4, y5, y6, y7, y8], .agg #[.slice ao L.length cap, .int .i64 loop]] w' (PlPost w' A)) :
    Calls Tryz.prog 45 #[.agg #[.int .u8 88, .int .i64 0, .int .i64 0, .int .i64 0, .int .i64 0, .int .i64 0, .int .i64 0, .int .u8 0, .slice (some ⟨b, 0, none⟩) 1 cp], .agg #[.slice ao L.length cap, .int .i64 loop]] w (PlPost w ((List.range L.length).map (fun i => at_ A (nxt L.length loop i)))) := by
  have hbl := lt_of_block hblk
  have HBlk : Put (_) := ⟨hblk⟩
  have HPl : Put (_) := ⟨HP⟩
  clear hblk HP
  obtain ⟨j0, hi, hz0, hz1, hz2⟩ := info_parts infoB
  have HBX : Put (_ ∧ _ ∧ _) := ⟨heap_alloc_new (w.alloc (.cells #[.int .u8 88, .int .i64 0, .int .i64 0, .int .i64 0, .int .i64 0, .int .i64 0, .int .i64 0, .int .u8 0, .slice (some ⟨b, 0, none⟩) 1 cp] 90)) (.cells #[.slice ao L.length cap, .int .i64 loop] 46), (Below.heap_alloc _ (.cells #[.slice ao L.length cap, .int .i64 loop] 46) _ (by simp)).trans (heap_alloc_new w (.cells #[.int .u8 88, .int .i64 0, .int .i64 0, .int .i64 0, .int .i64 0, .int .i64 0, .int .i64 0, .int .u8 0, .slice (some ⟨b, 0, none⟩) 1 cp] 90)), ((Below.refl w.heap.size w).alloc (Nat.le_refl _) (.cells #[.int .u8 88, .int .i64 0, .int .i64 0, .int .i64 0, .int .i64 0, .int .i64 0, .int .i64 0, .int .u8 0, .slice (some ⟨b, 0, none⟩) 1 cp] 90)).alloc (by simp) (.cells #[.slice ao L.length cap, .int .i64 loop] 46)⟩
  rw [World.size_alloc] at HBX
  go_enter Tryz.func45, Tryz.ntmps45
  go_wp2_with (at_make; refine wpList_make_full _ rfl _ _ 105 rfl w.heap.size 4 j0 _ 1 Tryz.underlying105 hi hz0 hz1 .i64 .i64 _ _ L.length rfl rfl rfl rfl (by rw [hz2]; omega) (by unfold maxLen; omega) (by simp; omega) ?_)
  intro w2 hown hgr
  rw [made_bls] at hown
  have hB2 : Below w.heap.size w w2 := HBX.out.2.2.grown hgr (by simp; omega) (fun k h => by cases h)
  have hx2 := (hgr.block (w.heap.size + 1) (by simp) (by simp)).trans HBX.out.1
  have hy2 := (hgr.block w.heap.size (by simp; omega) (by simp)).trans HBX.out.2.1
  have HO : Put (_) := ⟨hown⟩
  have HB2 : Put (_) := ⟨hB2⟩
  have HX2 : Put (_) := ⟨hx2⟩
  have HY2 : Put (_) := ⟨hy2⟩
  have o2 := (blk9 hy2).1.1
  have o8 := (blk9 hy2).1.2.2.2.2.2.2.2.2
  have x0 := two_cell0 hx2
  have x1 := two_cell1 hx2
  clear hown hgr hB2 hx2 hy2 HBX
  obtain ⟨⟨n0, n1, n2, n3, n4, n5, n6, n7, n8⟩, nf⟩ := blk9 ((HB2.out.block b hbl).trans HBlk.out)
  clear nf
  have HCr : Put (_) := ⟨HPl.out w2.drew HB2.out.drew⟩
  unfold PlPost at HCr
  have lx := lt_of_block HX2.out
  have ly := lt_of_block HY2.out
  have lo : w.heap.size + 1 + 1 < w2.heap.size := by
    have h := HO.out
    have e : (List.replicate L.length false).length = L.length := by simp
    obtain ⟨g, c, e', _, h2, _⟩ := bls_at (l := List.replicate L.length false) (by rw [e]; exact h) (by simp; omega)
    obtain ⟨rfl, _⟩ : w.heap.size + 1 + 1 = g ∧ _ := by simpa using e'
    exact h2
  go_wp2_with fail
  go_region_law ((go_simp; go_at_call 45; refine HCr.out.mono ?_; rintro e w3 ⟨⟨v, rfl, hro⟩, hb3⟩; obtain ⟨ga, ca, rfl, hgl, hga, hca, hcA⟩ := bls_at hro (by omega); have HB3 : Put (_) := ⟨hb3⟩; have HCA : Put (_) := ⟨hcA⟩; clear hro hb3 hcA; rw [hA]; rw [hA] at hca))
  all_goals
    have HRA : Put (RdB w3 (.slice (some ⟨ga, 0, none⟩) L.length ca) A) := ⟨ga, ca, by rw [hA], hga, by omega, HCA.out⟩
    have HBw : Put (Below w.heap.size w w3) := ⟨HB2.out.drew.trans (HB3.out.mono HB2.out.size)⟩
    have HX3 : Put (_) := ⟨(HB3.out.block _ lx).trans HX2.out⟩
    have HY3 : Put (_) := ⟨(HB3.out.block _ ly).trans HY2.out⟩
    have HO3 : Put (_) := ⟨HB3.out.ownsRow' (show w2.drew.ownsRow _ _ _ _ _ _ from HO.out)⟩
    have p2 := (blk9 HY3.out).1.1
    have p8 := (blk9 HY3.out).1.2.2.2.2.2.2.2.2
    have z0 := two_cell0 HX3.out
    have z1 := two_cell1 HX3.out
    have lz := lt_of_block HX3.out
    have HRAd : Put (RdB w3.drew (.slice (some ⟨ga, 0, none⟩) L.length ca) A) := ⟨HRA.out⟩
    have HZ : Put (∀ w4, Below w3.drew.heap.size w3.drew w4 → w4.cell? ⟨w.heap.size + 1, 0, none⟩ = some (.slice ao L.length cap) ∧ w4.cell? ⟨w.heap.size + 1, 1, none⟩ = some (.int .i64 loop) ∧ RdB w4 (.slice (some ⟨ga, 0, none⟩) L.length ca) A) := ⟨fun w4 hb4 => ⟨(hb4.cell (p := ⟨w.heap.size + 1, 0, none⟩) lz).trans z0, (hb4.cell (p := ⟨w.heap.size + 1, 1, none⟩) lz).trans z1, HRAd.out.below hb4⟩⟩
    have ly3 := lt_of_block HY3.out
    clear HO HB2 HX2 HY2 o2 o8 x0 x1 n0 n1 n2 n3 n4 n5 n6 n7 n8 HB3 HCr
    have HCk : Put (∀ k, k < L.length → w3.cell? ⟨ga, k, none⟩ = some (.bool (at_ A k))) := ⟨fun k hk => by rw [HCA.out k (by omega), at_get (by omega)]⟩
    have ngo : ¬ (ga = w.heap.size + 1 + 1) := by have : w2.heap.size ≤ ga := hgl; omega
    obtain ⟨RL, hRL⟩ : ∃ RL, RL = (List.range L.length).map (fun i => at_ A (nxt L.length loop i)) := ⟨_, rfl⟩
    have HRl : Put (RL.length = L.length) := ⟨by rw [hRL]; simp⟩
    have HRg : Put (∀ i, i < L.length → RL.take (i + 1) = RL.take i ++ [at_ A (nxt L.length loop i)]) := ⟨fun i hi => by
      rw [List.take_succ_eq_append_getElem (by rw [HRl.out]; exact hi)]
      simp [hRL]⟩
    have HRL : Put (_ = _) := ⟨hRL⟩
    clear hRL HCA hgl
    go_wp2_with fail
    go_loopg [9] L.length (fun gk iv wr => ∃ i : Nat, iv = .int .i64 i ∧ i + gk = L.length ∧ Put (Below w.heap.size w wr) ∧ Put (wr.heap[w.heap.size]? = some (.cells #[.int .u8 88, .int .i64 0, .int .i64 0, .int .i64 0, .int .i64 0, .int .i64 0, .int .i64 0, .int .u8 0, .slice (some ⟨b, 0, none⟩) 1 cp] 90 (0, 0))) ∧ Put (wr.heap[w.heap.size + 1]? = some (.cells #[.slice ao L.length cap, .int .i64 loop] 46 (0, 0))) ∧ Put (∀ k, k < L.length → wr.cell? ⟨ga, k, none⟩ = some (.bool (at_ A k))) ∧ Put (wr.ownsRow w.heap.size 4 1 (.slice (some ⟨w.heap.size + 1 + 1, 0, none⟩) L.length L.length) L.length (bls (RL.take i ++ List.replicate gk false))) ∧ ga < wr.heap.size)
    case atStart => exact ⟨0, rfl, by omega, HBw, HY3, HX3, HCk, HO3, hga⟩
    case round =>
      clear HBw HY3 HX3 HCk HO3 p2 p8 z0 z1 lz ly3 HRA HRAd HZ hga
      obtain ⟨i, rfl, hik, HBr, HYr, HXr, HCr, HO, hga⟩ := hrel
      obtain ⟨⟨n0, _⟩, _⟩ := blk9 HYr.out
      by_cases hlt : i < L.length
      · have hlt' : (i : Int) < (L.length : Int) := by omega
        have k0 : (0 : Int) ≤ (i : Int) := by omega
        obtain ⟨g', rfl⟩ : ∃ g', gk = g' + 1 := ⟨gk - 1, by omega⟩
        have q := HCr.out i hlt
        have HT : Put (_ = _) := ⟨HRg.out i hlt⟩
        have HNx : Put (_) := ⟨dnext_any (w := wr) i L.length loop ao cap hlt hn⟩
        have lb := lt_of_block HYr.out
        have la := lt_of_block HXr.out
        have x0 := two_cell0 HXr.out
        have x1 := two_cell1 HXr.out
        have HG : Put (∀ w4, Below wr.heap.size wr w4 → w4.cell? ⟨ga, nxt L.length loop i, none⟩ = some (.bool (at_ A (nxt L.length loop i))) ∧ w4.cell? ⟨w.heap.size + 1 + 1, i, none⟩ = some (.bool false) ∧ w4.frozen? ⟨w.heap.size + 1 + 1, i, none⟩ = false ∧ (w4.setCell ⟨w.heap.size + 1 + 1, i, none⟩ (.bool (at_ A (nxt L.length loop i)))).ownsRow w.heap.size 4 1 (.slice (some ⟨w.heap.size + 1 + 1, 0, none⟩) L.length L.length) L.length (bls (RL.take (i + 1) ++ List.replicate g' false))) := ⟨fun w4 hb4 => by
          obtain ⟨_, _, c1, f1, hnew⟩ := fill_at (hb4.ownsRow' HO.out) (by rw [List.length_take, HRl.out]; omega) hik (at_ A (nxt L.length loop i))
          rw [← HT.out] at hnew
          exact ⟨(hb4.cell (p := ⟨ga, nxt L.length loop i, none⟩) hga).trans (HCr.out _ (nxt_lt hl)), c1, f1, hnew⟩⟩
        have hnl : nxt L.length loop i < L.length := nxt_lt hl
        have hnl' : ((nxt L.length loop i : Nat) : Int) < (L.length : Int) := by omega
        have hnl0 : (0 : Int) ≤ ((nxt L.length loop i : Nat) : Int) := by omega
        generalize hnx : nxt L.length loop i = nx at *
        generalize hax : at_ A nx = x at *
        clear hnx
        go_wp2_with fail
        refine HNx.out.mono ?_
        rintro e w4 ⟨rfl, hb4⟩
        obtain ⟨qa, c1, f1, hnew⟩ := HG.out w4 hb4
        have HN : Put (_) := ⟨hnew⟩
        have HB4 : Put (_) := ⟨hb4⟩
        clear hnew hb4
        have HBn : Put (_) := ⟨(HBr.out.trans (HB4.out.mono HBr.out.size)).setCell (p := ⟨w.heap.size + 1 + 1, i, none⟩) (by show w.heap.size ≤ w.heap.size + 1 + 1; omega) (.bool x)⟩
        have HYn : Put (_) := ⟨(heap_setCell_other w4 ⟨w.heap.size + 1 + 1, i, none⟩ w.heap.size (.bool x) (by show w.heap.size ≠ w.heap.size + 1 + 1; omega)).trans ((HB4.out.block _ lb).trans HYr.out)⟩
        have HXn : Put (_) := ⟨(heap_setCell_other w4 ⟨w.heap.size + 1 + 1, i, none⟩ (w.heap.size + 1) (.bool x) (by show w.heap.size + 1 ≠ w.heap.size + 1 + 1; omega)).trans ((HB4.out.block _ la).trans HXr.out)⟩
        have HCn : Put (∀ k, k < L.length → (w4.setCell ⟨w.heap.size + 1 + 1, i, none⟩ (.bool x)).cell? ⟨ga, k, none⟩ = some (.bool (at_ A k))) := ⟨fun k hk => by
          rw [← HCr.out k hk]
          have := HB4.out.cell (p := ⟨ga, k, none⟩) hga
          rw [← this]
          unfold World.cell?; rw [heap_setCell_other _ _ _ _ (by show ga ≠ w.heap.size + 1 + 1; omega)]⟩
        have hsz : ga < w4.heap.size := Nat.lt_of_lt_of_le hga HB4.out.size
        clear HBr HYr HXr HO HCr HB4
        go_wp2
        go_roundg g'
        case measure => exact Nat.lt_succ_self _
        case rel => exact ⟨i + 1, by go_num, by omega, HBn, HYn, HXn, HCn, HN, by simpa using hsz⟩
      · obtain rfl : i = L.length := by omega
        have hlt' : ¬ ((L.length : Int) < (L.length : Int)) := by omega
        obtain rfl : gk = 0 := by omega
        have HE : Put (RL.take L.length = RL) := ⟨List.take_of_length_le (by rw [HRl.out]; exact Nat.le_refl _)⟩
        have HFin : Put (PlPost w ((List.range L.length).map (fun i => at_ A (nxt L.length loop i))) (.returned (.slice (some ⟨w.heap.size + 1 + 1, 0, none⟩) L.length L.length)) wr) := ⟨by rw [← HRL.out]; exact ⟨⟨_, rfl, by have := HO.out; rw [HE.out] at this; rw [HRl.out]; simpa using this⟩, HBr.out⟩⟩
        clear HE HO HBr HYr HXr HCr
        go_wp2
        go_ret
        exact HFin.out
end
end Go.Proofs.YtgoebckimmofoaaGreatDoor
