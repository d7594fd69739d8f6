import Derived.Lib.TrailingZeros
import Derived.Test.YtgoebckimmofoaaGreatDoorRows
import Derived.WalkKit
import Derived.WalkSpells
import Derived.WalkLawsBesides
import Derived.Deep.QuietTactic
import Derived.BigQuiet
import Derived.RegionTactic
import Derived.Scope
import Derived.WalkMore
import Derived.Deep.LoopGhost
import Derived.Deep.AppendLies
import Derived.Deep.RegionHeld3
import Derived.Laws.Bits64b
import Derived.Laws.IdiomStrings
import Derived.Maps.AppendAt
import Derived.RangeFuncBox
import Derived.Deep.RegionLaw
import Derived.Deep.RegionHeld
import Derived.RangeFuncNested
import Derived.RangeFuncBound
import Derived.RangeFuncCalls
import Derived.RangeFuncLeaves
import Derived.Shelf.Abstract
import Derived.Shelf.RegionOpen
import Derived.OwnWalkIn
import Derived.TacticsInMore
import Derived.LoopNIn
import Derived.LoopIn
import Derived.Stop.RegionWithIn
import Derived.MapKept
import Derived.Lib.Bytealg
import Derived.Lib.IndexLaws
import Derived.Laws.EntriesVeiled
import Derived.Deep.DrawnRows
import Derived.Test.YtgoebckimmofoaaGreatDoorB1
import Derived.Test.YtgoebckimmofoaaGreatDoorB2
import Derived.Test.YtgoebckimmofoaaGreatDoorB3
import Derived.Test.YtgoebckimmofoaaGreatDoorB4
import Derived.Test.YtgoebckimmofoaaGreatDoorB5
import Derived.Test.YtgoebckimmofoaaGreatDoorB6
import Derived.Test.YtgoebckimmofoaaGreatDoorB7
import Derived.Test.YtgoebckimmofoaaGreatDoorB9
import Derived.Test.YtgoebckimmofoaaGreatDoorB11
import Derived.Test.YtgoebckimmofoaaGreatDoorB12
/- The code's reader: the end of a rule, and what the rule makes. Our own text. -/
namespace Go.Proofs.YtgoebckimmofoaaGreatDoor
open Go.RowKit Go.Lib

theorem vals_at {w : World} {base e : Nat} {ao : Option Addr} {cap : Nat} {l : List Value} (h : w.ownsRow base e 1 (.slice ao l.length cap) l.length l) (hl : 0 < l.length) : ∃ g, ao = some ⟨g, 0, none⟩ ∧ base ≤ g ∧ g < w.heap.size ∧ l.length ≤ cap ∧ ∀ k (hk : k < l.length), w.cell? ⟨g, k, none⟩ = some l[k] := by
  have e1 : l = l.flatMap (fun d => [d]) := by simp
  have h2 : w.ownsRow base e 1 (.slice ao l.length cap) l.length (l.flatMap (fun d => [d])) := by rw [← e1]; exact h
  obtain ⟨g, h1, h3, h4, h5, h6⟩ := row_at (z := 1) (fun _ => rfl) h2 hl
  exact ⟨g, h1, h3, h4, h5, fun k hk => by have := h6 k hk 0 (by omega); simpa using this⟩
theorem chF_snoc (ds : List (Nat × Nat)) (k : Nat) (h : k < ds.length) (m : Nat) : chF (ds.take (k + 1)) m = spr (chF (ds.take k) m) ds[k].1 ds[k].2 := by
  have e : ds.take (k + 1) = ds.take k ++ [ds[k]] := by rw [List.take_add_one, List.getElem?_eq_getElem h]; rfl
  rw [e]; unfold chF; rw [List.foldl_append]; rfl
set_option maxRecDepth 100000 in
set_option maxHeartbeats 1600000 in
theorem fn87_any (s : ByteArray) (G : Nat → Nat) (bc bd y : Nat) (hy : y < 64) (b1 b2 : Nat) (aoc aod : Option Addr) (capc capd : Nat) (xs ys : List Value) (cs : List (Tm × Tm)) (ds : List Chg) (w W : World) (hW : Kp 0 w W) (h0 : 0 < W.heap.size) (hT : Tab W) (h8 : xs.length ≤ 200) (h9 : ys.length ≤ 200)
    (hc : All2 (fun v c => FnK 0 w v (fun y => .bool (cdP s c y))) xs cs) (hd : All2 (fun v d => FnK2 w v (fun y m => .int .u64 (spr m d.1.toNat (toP s d (G d.1.toNat + 1) y) : Nat))) ys ds) (hd3 : ∀ d ∈ ds, d.1.toNat < 3)
    (rc : 0 < xs.length → W.ownsRow b1 217 1 (.slice aoc xs.length capc) xs.length xs) (rd : 0 < ys.length → W.ownsRow b2 270 1 (.slice aod ys.length capd) ys.length ys)
    (x1 : W.heap[bc]? = some (.cells #[.slice aoc xs.length capc] 116 (0, 0))) (x2 : W.heap[bd]? = some (.cells #[.slice aod ys.length capd] 117 (0, 0))) :
    Calls Tryz.prog 155 #[.int .u8 (y : Nat), .pointer (some ⟨bc, 0, none⟩), .pointer (some ⟨bd, 0, none⟩)] W fun e W' => e = .returned (.int .u64 (ruP s G (cs, ds) y : Nat)) ∧ Below W.heap.size W W' := by
  have c1 := box_cell x1
  have c2 := box_cell x2
  have l1 := lt_of_block x1
  have l2 := lt_of_block x2
  have HRC : Put (_) := ⟨rc⟩
  have HRD : Put (_) := ⟨rd⟩
  have HC : Put (_) := ⟨hc⟩
  have HD : Put (_) := ⟨hd⟩
  have hlc := hc.length
  have hld := hd.length
  generalize hP : ruP s G (cs, ds) y = P
  have hru : ruP s G (cs, ds) y = if cs.all (fun c => cdP s c y) then chF (dsP s G ds y) (2 ^ y) else 0 := rfl
  rw [hru] at hP
  have HP : Put (_ = P) := ⟨hP⟩
  have HD3 : Put (_) := ⟨hd3⟩
  clear hP hru rc rd x1 x2 hc hd hd3
  go_enter Tryz.func155, Tryz.ntmps155
  go_wp2_with fail
  go_loopg [12] xs.length (fun gk iv wr => ∃ i : Nat, iv = .int .i64 i ∧ i + gk = xs.length ∧ Below W.heap.size W wr ∧ (if (cs.drop i).all (fun c => cdP s c y) then chF (dsP s G ds y) (2 ^ y) else 0) = P)
  case atStart => exact ⟨0, rfl, by omega, Below.refl _ _, HP.out⟩
  case round =>
    clear HP
    obtain ⟨i, rfl, hik, hBr, hPi⟩ := hrel
    have hsr := hBr.size
    by_cases hlt : i < xs.length
    · have hlt' : (i : Int) < (xs.length : Int) := by omega
      have i0 : (0 : Int) ≤ (i : Int) := by omega
      obtain ⟨g', rfl⟩ : ∃ g', gk = g' + 1 := ⟨gk - 1, by omega⟩
      have hic : i < cs.length := by omega
      obtain ⟨g, rfl, hg1, hg2, hg3, hcell⟩ := vals_at (HRC.out (by omega)) (by omega)
      have q := (hBr.cell (p := ⟨g, i, none⟩) hg2).trans (hcell i hlt)
      obtain ⟨fn, caps, hv, hen, hcall⟩ := HC.out.get i hlt hic
      rw [hv] at q
      rw [List.drop_eq_getElem_cons hic, List.all_cons] at hPi
      have hcl : Calls Tryz.prog fn (#[.int .u8 (y : Nat)] ++ caps) wr fun e W' => e = .returned (.bool (cdP s cs[i] y)) ∧ Below wr.heap.size wr W' := hcall wr (hW.trans (Kp.of_below hBr)) (by omega) (hT.below hBr h0) y hy
      generalize cdP s cs[i] y = bb at hcl hPi
      have HPi : Put (_ = P) := ⟨hPi⟩
      clear hcell hv hcall hPi
      go_wp2_with fail
      refine hcl.mono ?_
      rintro e w3 ⟨rfl, hb3⟩
      have hB3 : Below W.heap.size W w3 := hBr.trans (hb3.mono hsr)
      clear hcl hb3 hBr
      cases bb with
      | true =>
        have HPj : Put ((if (cs.drop (i + 1)).all (fun c => cdP s c y) then chF (dsP s G ds y) (2 ^ y) else 0) = P) := ⟨HPi.out⟩
        clear HPi
        go_wp2
        go_roundg g'
        case measure => exact Nat.lt_succ_self _
        case rel => exact ⟨i + 1, by go_num, by omega, hB3, HPj.out⟩
      | false =>
        have hP0 : 0 = P := by have := HPi.out; simpa using this
        subst hP0
        clear HPi
        go_wp2
        go_ret
        exact ⟨rfl, hB3⟩
    · obtain rfl : i = xs.length := by omega
      have hlt' : ¬ ((xs.length : Int) < (xs.length : Int)) := by omega
      rw [hlc, List.drop_length] at hPi
      have HPi : Put (chF (dsP s G ds y) (2 ^ y) = P) := ⟨by simpa using hPi⟩
      clear hPi
      have d2 := (hBr.cell (p := ⟨bd, 0, none⟩) l2).trans c2
      go_wp2_with fail
      refine (with64_any 0 y (by decide) hy wr).mono ?_
      rintro e w3 ⟨rfl, rfl⟩
      go_wp2_with fail
      have hBk := hBr
      generalize w3 = wk at *
      go_loopg [7, 26] ys.length (fun gk mv iv wr => ∃ k : Nat, iv = .int .i64 k ∧ k + gk = ys.length ∧ mv = .int .u64 (chF ((dsP s G ds y).take k) (2 ^ y) : Nat) ∧ Below W.heap.size W wr)
      case atStart => exact ⟨0, rfl, by omega, by simp [chF], hBk⟩
      case round =>
        clear hBk hBr
        obtain ⟨k, rfl, hkk, rfl, hBr⟩ := hrel
        have hsr := hBr.size
        have hdl : (dsP s G ds y).length = ds.length := by simp [dsP]
        have h3d : ∀ e ∈ dsP s G ds y, e.1 < 3 := by
          intro e he
          unfold dsP at he
          obtain ⟨d, hd, rfl⟩ := List.mem_map.1 he
          exact HD3.out d hd
        have hlt : chF ((dsP s G ds y).take k) (2 ^ y) < 18446744073709551616 := by
          rw [← p64]
          exact chF_lt _ _ (fun e he => h3d e (List.mem_of_mem_take he)) (Nat.pow_lt_pow_right (by decide) hy)
        by_cases hk : k < ys.length
        · have hk' : (k : Int) < (ys.length : Int) := by omega
          have k0 : (0 : Int) ≤ (k : Int) := by omega
          obtain ⟨g', rfl⟩ : ∃ g', gk = g' + 1 := ⟨gk - 1, by omega⟩
          have hkd : k < ds.length := by omega
          obtain ⟨g, rfl, hg1, hg2, hg3, hcell⟩ := vals_at (HRD.out (by omega)) (by omega)
          have q := (hBr.cell (p := ⟨g, k, none⟩) hg2).trans (hcell k hk)
          obtain ⟨fn, caps, hv, hen, hcall⟩ := HD.out.get k hk hkd
          rw [hv] at q
          have hsn := chF_snoc (dsP s G ds y) k (by omega) (2 ^ y)
          have hdk : (dsP s G ds y)[k]'(by omega) = (ds[k].1.toNat, toP s ds[k] (G ds[k].1.toNat + 1) y) := by simp [dsP]
          rw [hdk] at hsn
          have hcl : Calls Tryz.prog fn (#[.int .u8 (y : Nat), .int .u64 (chF ((dsP s G ds y).take k) (2 ^ y) : Nat)] ++ caps) wr fun e W' => e = .returned (.int .u64 ((spr (chF ((dsP s G ds y).take k) (2 ^ y)) ds[k].1.toNat (toP s ds[k] (G ds[k].1.toNat + 1) y) : Nat) : Int)) ∧ Below wr.heap.size wr W' := hcall wr (hW.trans (Kp.of_below hBr)) (by omega) (hT.below hBr h0) y _ hy hlt
          rw [← hsn] at hcl
          clear hcell hv hcall hsn hdk
          go_wp2_with fail
          refine hcl.mono ?_
          rintro e w3 ⟨rfl, hb3⟩
          have hB3 : Below W.heap.size W w3 := hBr.trans (hb3.mono hsr)
          clear hcl hb3 hBr
          go_wp2
          go_roundg g'
          case measure => exact Nat.lt_succ_self _
          case rel => exact ⟨k + 1, by go_num, by omega, rfl, hB3⟩
        · obtain rfl : k = ys.length := by omega
          have hk' : ¬ ((ys.length : Int) < (ys.length : Int)) := by omega
          have hPk : chF ((dsP s G ds y).take ys.length) (2 ^ y) = P := by
            rw [List.take_of_length_le (by omega)]; exact HPi.out
          rw [hPk]
          clear hPk hlt
          go_wp2
          go_ret
          exact ⟨rfl, hBr⟩
end Go.Proofs.YtgoebckimmofoaaGreatDoor

namespace Go.Proofs.YtgoebckimmofoaaGreatDoor
open Go.RowKit Go.Lib
attribute [local go_sem ↓] Go.wp_at_zero Go.wp_at_succ

theorem makeRule_any (a b : Value) (ha : a.oneCell' = true) (hb : b.oneCell' = true) (w : World) :
    Calls Tryz.prog 116 #[a, b] w fun e w' => e = .returned (.func (.func 155) #[] #[.pointer (some ⟨w.heap.size, 0, none⟩), .pointer (some ⟨w.heap.size + 1, 0, none⟩)]) ∧ w' = (w.alloc (.cells #[a] 116)).alloc (.cells #[b] 117) := by
  have hmf : ∀ (fn : Fn) (first cap : Array Value) (w : World), (Instr.makeFunc fn first cap).run Tryz.prog w = .ok (.func fn first cap) w := fun _ _ _ _ => rfl
  go_enter Tryz.func116, Tryz.ntmps116
  go_wp2
  go_ret
  exact ⟨rfl, rfl⟩
theorem news3 (w : World) (o1 o2 : Obj) (v : Value) (t : TypeId) : ∀ j u, [v][j]? = some u → (((w.alloc o1).alloc o2).alloc (.cells #[v] t)).drew.cell? ((⟨w.heap.size + 2, 0, none⟩ : Addr).add j) = some u := by
  have := cell_one_new ((w.alloc o1).alloc o2) v t
  simpa using this
theorem size3 (w : World) (o1 o2 o3 : Obj) : (((w.alloc o1).alloc o2).alloc o3).drew.heap.size = w.heap.size + 3 := by simp
theorem base3 (w : World) (o1 o2 o3 : Obj) (B : Nat) (h : B < w.heap.size) : B + 1 ≤ (((w.alloc o1).alloc o2).alloc o3).drew.heap.size := by simp; omega

theorem base3' (w : World) (o1 o2 o3 : Obj) (B : Nat) (h : B < w.heap.size) : B ≤ (((w.alloc o1).alloc o2).alloc o3).drew.heap.size := by simp; omega

section
variable {B M N : Nat} {s : ByteArray} {vs : List V2} {t : T} {x : Junk} {w0 w w1 : World} {cl : List (Tm × Tm)} {dl : List Chg} {rl : List RA} {xs : List Value} {g cap : Nat}
theorem St.end_push (h : St B M N s vs t x cl dl rl w0 w) (h8 : rl.length < 8) (hs : s.size ≤ 120) (hat : t.at_ ≤ s.size) (hr : w.ownsRow (B + 1) 149 1 x.vr t.nr xs) (hrm : All2 (fun v r => FnK N w v (fun y => .int .u64 (ruP s (Gv vs) r y : Nat))) xs rl)
    (hgrow : ((((w.alloc (.cells #[x.vc] 116)).alloc (.cells #[x.vh] 117)).alloc (.cells #[.func (.func 155) #[] #[.pointer (some ⟨w.heap.size, 0, none⟩), .pointer (some ⟨w.heap.size + 1, 0, none⟩)]] 149)).drew).grownBy w1 x.vr.ownBlock) (hown1 : w1.ownsRow (B + 1) 149 1 (.slice (some ⟨g, 0, none⟩) (t.nr + 1) cap) (t.nr + 1) (xs ++ [.func (.func 155) #[] #[.pointer (some ⟨w.heap.size, 0, none⟩), .pointer (some ⟨w.heap.size + 1, 0, none⟩)]])) :
    ∃ x' N', St B M N' s vs { t with nr := t.nr + 1, chd := 0 } x' [] [] (rl ++ [(cl, dl)]) w0 ((((w1.setCell ⟨M, 7, none⟩ (.slice (some ⟨g, 0, none⟩) (t.nr + 1) cap)).setCell ⟨B, 5, none⟩ (.slice none 0 0)).setCell ⟨B, 6, none⟩ (.slice none 0 0)).setCell ⟨B, 7, none⟩ (.int .u8 0)) := by
  have hM := h.rb.lo
  have hN := h.hN
  have hB := h.rb.lt
  have hNw := h.hNw
  obtain ⟨-, ⟨ys, hc, hcm⟩, ⟨zs, hh, hhm⟩⟩ := h.rw
  have hb1 : RB B M s t x w1 := ((((h.rb.alloc _).alloc _).alloc _).drew).grown hgrow (ownBlock_ne hr) (ne_own (by omega) hr)
  have hb4 := ((((hb1.setr (.slice (some ⟨g, 0, none⟩) (t.nr + 1) cap)).setnr (t.nr + 1)).set5 (.slice none 0 0)).set6 (.slice none 0 0)).set7 0
  have hX4 : Ex2 B M w1 ((((w1.setCell ⟨M, 7, none⟩ (.slice (some ⟨g, 0, none⟩) (t.nr + 1) cap)).setCell ⟨B, 5, none⟩ (.slice none 0 0)).setCell ⟨B, 6, none⟩ (.slice none 0 0)).setCell ⟨B, 7, none⟩ (.int .u8 0)) := (((((Ex.refl B w1).two (M := M)).setCell (p := ⟨M, 7, none⟩) (.inr (.inl rfl)) _).setCell (p := ⟨B, 5, none⟩) (.inl rfl) _).setCell (p := ⟨B, 6, none⟩) (.inl rfl) _).setCell (p := ⟨B, 7, none⟩) (.inl rfl) _
  have hrow4 := hX4.ownsRow (Nat.lt_succ_self B) (by omega) hown1
  have hc1 := (((((hc.alloc (.cells #[x.vc] 116)).alloc (.cells #[x.vh] 117)).alloc (.cells #[.func (.func 155) #[] #[.pointer (some ⟨w.heap.size, 0, none⟩), .pointer (some ⟨w.heap.size + 1, 0, none⟩)]] 149)).drew).kept hgrow (apart_of_types hc hr (by decide)))
  have hh1 := (((((hh.alloc (.cells #[x.vc] 116)).alloc (.cells #[x.vh] 117)).alloc (.cells #[.func (.func 155) #[] #[.pointer (some ⟨w.heap.size, 0, none⟩), .pointer (some ⟨w.heap.size + 1, 0, none⟩)]] 149)).drew).kept hgrow (apart_of_types hh hr (by decide)))
  have kAl : ∀ Z, Kp Z w ((((w.alloc (.cells #[x.vc] 116)).alloc (.cells #[x.vh] 117)).alloc (.cells #[.func (.func 155) #[] #[.pointer (some ⟨w.heap.size, 0, none⟩), .pointer (some ⟨w.heap.size + 1, 0, none⟩)]] 149)).drew) := fun Z => Kp.of_below ((((Below.refl _ _).alloc (Nat.le_refl _) _).alloc (by simp) _).alloc (by simp; omega) _).drew
  have kGr : ∀ Z, Kp Z ((((w.alloc (.cells #[x.vc] 116)).alloc (.cells #[x.vh] 117)).alloc (.cells #[.func (.func 155) #[] #[.pointer (some ⟨w.heap.size, 0, none⟩), .pointer (some ⟨w.heap.size + 1, 0, none⟩)]] 149)).drew) w1 := fun Z => Kp.grown ((((hr.alloc _).alloc _).alloc _).drew) (.inl (by decide)) hgrow
  have hBel : Below M w w1 := (((((Ex.refl B w).alloc _).alloc _).alloc _).drew.below (by omega) (by omega)).grown hgrow (by have := base3' w (.cells #[x.vc] 116) (.cells #[x.vh] 117) (.cells #[.func (.func 155) #[] #[.pointer (some ⟨w.heap.size, 0, none⟩), .pointer (some ⟨w.heap.size + 1, 0, none⟩)]] 149) B hB; omega) (ge_own (by omega) hr)
  have bx1 : ((((w.alloc (.cells #[x.vc] 116)).alloc (.cells #[x.vh] 117)).alloc (.cells #[.func (.func 155) #[] #[.pointer (some ⟨w.heap.size, 0, none⟩), .pointer (some ⟨w.heap.size + 1, 0, none⟩)]] 149)).drew).heap[w.heap.size]? = some (.cells #[x.vc] 116 (0, 0)) := by
    show (((w.alloc (.cells #[x.vc] 116)).alloc (.cells #[x.vh] 117)).alloc (.cells #[.func (.func 155) #[] #[.pointer (some ⟨w.heap.size, 0, none⟩), .pointer (some ⟨w.heap.size + 1, 0, none⟩)]] 149)).heap[w.heap.size]? = _
    rw [Below.heap_alloc _ _ _ (by simp; omega), Below.heap_alloc _ _ _ (by simp)]; exact heap_alloc_new w _
  have bx2 : ((((w.alloc (.cells #[x.vc] 116)).alloc (.cells #[x.vh] 117)).alloc (.cells #[.func (.func 155) #[] #[.pointer (some ⟨w.heap.size, 0, none⟩), .pointer (some ⟨w.heap.size + 1, 0, none⟩)]] 149)).drew).heap[w.heap.size + 1]? = some (.cells #[x.vh] 117 (0, 0)) := by
    show (((w.alloc (.cells #[x.vc] 116)).alloc (.cells #[x.vh] 117)).alloc (.cells #[.func (.func 155) #[] #[.pointer (some ⟨w.heap.size, 0, none⟩), .pointer (some ⟨w.heap.size + 1, 0, none⟩)]] 149)).heap[w.heap.size + 1]? = _
    rw [Below.heap_alloc _ _ _ (by simp)]
    have := heap_alloc_new (w.alloc (.cells #[x.vc] 116)) (.cells #[x.vh] 117)
    simpa using this
  have hc4 := hX4.ownsRow hN (by omega) hc1
  have hh4 := hX4.ownsRow hN (by omega) hh1
  have kX : ∀ Z, Kp Z w1 ((((w1.setCell ⟨M, 7, none⟩ (.slice (some ⟨g, 0, none⟩) (t.nr + 1) cap)).setCell ⟨B, 5, none⟩ (.slice none 0 0)).setCell ⟨B, 6, none⟩ (.slice none 0 0)).setCell ⟨B, 7, none⟩ (.int .u8 0)) := hb1.kp hX4
  have hBel4 : Below M w0 ((((w1.setCell ⟨M, 7, none⟩ (.slice (some ⟨g, 0, none⟩) (t.nr + 1) cap)).setCell ⟨B, 5, none⟩ (.slice none 0 0)).setCell ⟨B, 6, none⟩ (.slice none 0 0)).setCell ⟨B, 7, none⟩ (.int .u8 0)) := h.lo.trans (hBel.trans (hX4.below hM (by have := hb1.ltM; omega)))
  have hl := h.lc
  have hl2 := h.ld
  generalize ((((w1.setCell ⟨M, 7, none⟩ (.slice (some ⟨g, 0, none⟩) (t.nr + 1) cap)).setCell ⟨B, 5, none⟩ (.slice none 0 0)).setCell ⟨B, 6, none⟩ (.slice none 0 0)).setCell ⟨B, 7, none⟩ (.int .u8 0)) = w4 at *
  have kAll : ∀ Z, Kp Z w w4 := fun Z => ((kAl Z).trans (kGr Z)).trans (kX Z)
  have bx1' := ((kGr 0).trans (kX 0)).box bx1 (by decide) (by decide) (by rcases hc.2 with ⟨h, _⟩ | ⟨_, _, _, h, _⟩ <;> rw [h] <;> simp)
  have bx2' := ((kGr 0).trans (kX 0)).box bx2 (by decide) (by decide) (by rcases hh.2 with ⟨h, _⟩ | ⟨_, _, _, h, _⟩ <;> rw [h] <;> simp)
  refine ⟨_, w4.heap.size, (by simp [h.nr]), (by simp; omega), (by have := hb4.lt; omega), Nat.le_refl _, Nat.zero_le _, Nat.zero_le _, (fun d hd => by cases hd), hb4, ⟨⟨xs ++ [.func (.func 155) #[] #[.pointer (some ⟨w.heap.size, 0, none⟩), .pointer (some ⟨w.heap.size + 1, 0, none⟩)]], by rw [List.length_append, ← h.nr]; exact hrow4, ?_⟩, ⟨[], World.ownsRow_nil _ _ _ _, All2.nil⟩, ⟨[], World.ownsRow_nil _ _ _ _, All2.nil⟩⟩, hBel4, h.gf.same ⟨rfl, rfl, rfl, rfl, rfl, rfl⟩, h.vl⟩
  refine All2.snoc (R := fun v r => FnK w4.heap.size w4 v (fun y => .int .u64 (ruP s (Gv vs) r y : Nat))) (b := (cl, dl)) ?_ (hrm.mono (fun _ _ h => h.up (kAll N) (Nat.le_trans hNw (kAll N).size)))
  refine ⟨155, _, rfl, enters_of Tryz.func155 (by kernel_rfl) rfl, fun W hW h0 hT y hy => ?_⟩
  obtain ⟨aoc, capc, hvc⟩ := owned_slice' hc4
  obtain ⟨aod, capd, hvd⟩ := owned_slice' hh4
  have elc := hcm.length
  have eld := hhm.length
  rw [hvc] at bx1' hc4
  rw [hvd] at bx2' hh4
  rw [← elc] at bx1' hc4
  rw [← eld] at bx2' hh4
  have hW0 := hW.mono (Nat.zero_le _)
  refine fn87_any s (Gv vs) w.heap.size (w.heap.size + 1) y hy N N aoc aod capc capd ys zs cl dl w4 W hW0 h0 hT (by omega) (by omega) (hcm.mono (fun _ _ h => h.kp (kAll 0))) (hhm.mono (fun _ _ h => h.kp (kAll 0))) h.d3 (fun hp => ?_) (fun hp => ?_) (hW0.box bx1') (hW0.box bx2')
  · refine hW.row (by decide) hc4 (Nat.le_refl _) ?_
    obtain ⟨fn, caps, hv, _⟩ := hcm.get 0 hp (by omega)
    exact ⟨.func fn, caps, by rw [List.getElem?_eq_getElem hp, hv]⟩
  · refine hW.row (by decide) hh4 (Nat.le_refl _) ?_
    obtain ⟨fn, caps, hv, _⟩ := hhm.get 0 hp (by omega)
    exact ⟨.func fn, caps, by rw [List.getElem?_eq_getElem hp, hv]⟩
set_option maxRecDepth 100000 in
set_option maxHeartbeats 1600000 in
theorem end_any (hs : s.size ≤ 120) (hat : t.at_ ≤ s.size) (h8 : rl.length < 8) (h : St B M N s vs t x cl dl rl w0 w) :
    Calls Tryz.prog 78 #[.pointer (some ⟨B, 0, none⟩)] w fun e w' => e = .returned (.tuple #[]) ∧ ∃ x' N', St B M N' s vs { t with nr := t.nr + 1, chd := 0 } x' [] [] (rl ++ [(cl, dl)]) w0 w' := by
  have hb := h.rb
  obtain ⟨xs, hr, hrm⟩ := h.rw.r
  obtain ⟨ys, hc, -⟩ := h.rw.c
  obtain ⟨zs, hh, -⟩ := h.rw.h
  rw [← h.nr] at hr
  obtain ⟨i0, hi, hz0, hz1, hz2⟩ := info_parts Tryz.infoR
  have hB := hb.lt
  have hM := hb.ltM
  have c2 := hb.c2
  have c5 := hb.c5
  have c6 := hb.c6
  have m7 := hb.m7
  have o10 := owned_oneCell hc
  have o11 := owned_oneCell hh
  have hnr : t.nr < 8 := by rw [h.nr]; exact h8
  have m63 : t.nr + 1 ≤ maxLen := by unfold maxLen; omega
  have m47 : (t.nr + 1) * 8 ≤ 140737488355328 := by omega
  have p2 : ∀ o1 o2, ((w.alloc o1).alloc o2).cell? ⟨B, 2, none⟩ = some (.pointer (some ⟨M, 0, none⟩)) := fun _ _ => ((hb.alloc _).alloc _).c2
  have p3 : ∀ o1 o2 o3, (((w.alloc o1).alloc o2).alloc o3).cell? ⟨B, 2, none⟩ = some (.pointer (some ⟨M, 0, none⟩)) := fun _ _ _ => (((hb.alloc _).alloc _).alloc _).c2
  have p2' : ∀ o1 o2, ((w.alloc o1).alloc o2).drew.cell? ⟨B, 2, none⟩ = some (.pointer (some ⟨M, 0, none⟩)) := fun _ _ => ((hb.alloc _).alloc _).c2
  have p3' : ∀ o1 o2 o3, (((w.alloc o1).alloc o2).alloc o3).drew.cell? ⟨B, 2, none⟩ = some (.pointer (some ⟨M, 0, none⟩)) := fun _ _ _ => (((hb.alloc _).alloc _).alloc _).c2
  have k2 : ∀ o1 o2, ((w.alloc o1).alloc o2).cell? ⟨M, 7, none⟩ = some x.vr := fun _ _ => ((hb.alloc _).alloc _).m7
  have k3 : ∀ o1 o2 o3, (((w.alloc o1).alloc o2).alloc o3).cell? ⟨M, 7, none⟩ = some x.vr := fun _ _ _ => (((hb.alloc _).alloc _).alloc _).m7
  have k2' : ∀ o1 o2, ((w.alloc o1).alloc o2).drew.cell? ⟨M, 7, none⟩ = some x.vr := fun _ _ => ((hb.alloc _).alloc _).m7
  have k3' : ∀ o1 o2 o3, (((w.alloc o1).alloc o2).alloc o3).drew.cell? ⟨M, 7, none⟩ = some x.vr := fun _ _ _ => (((hb.alloc _).alloc _).alloc _).m7
  have HP : Put (∀ (tq : T) (v : Value) (W : World), RB B M s tq { x with vr := v } W → W.cell? ⟨B, 2, none⟩ = some (.pointer (some ⟨M, 0, none⟩)) ∧ W.cell? ⟨B, 5, none⟩ = some x.vc ∧ W.cell? ⟨B, 6, none⟩ = some x.vh) := ⟨fun tq v W hr => ⟨hr.c2, hr.c5, hr.c6⟩⟩
  have HS : Put (_ ∧ _) := ⟨h, hrm⟩
  have hne := ownBlock_ne hr
  have hneM : x.vr.ownBlock ≠ some M := ne_own (by have := hb.lo; omega) hr
  clear h hrm
  go_enter Tryz.func78, Tryz.ntmps78
  go_wp2_with fail
  refine wp_region_held (S := fun w' => w'.cell? ⟨B, 2, none⟩ = some (.pointer (some ⟨M, 0, none⟩)) ∧ w'.cell? ⟨B, 5, none⟩ = some x.vc ∧ w'.cell? ⟨B, 6, none⟩ = some x.vh) (by kernel_rfl) ?_
  have hS0 : (fun w' : World => w'.cell? ⟨B, 2, none⟩ = some (.pointer (some ⟨M, 0, none⟩)) ∧ w'.cell? ⟨B, 5, none⟩ = some x.vc ∧ w'.cell? ⟨B, 6, none⟩ = some x.vh) { w with drawn := w.drawn + 1 } := ⟨c2, c5, c6⟩
  refine wpAnyH_take (i := 0) (v := ?_) rfl (by kernel_rfl) (by kernel_rfl) (by kernel_rfl) (fun _ _ _ h => h) (Or.inl ⟨by rfl, ?_⟩) hS0 ?_
  rotate_left
  · intro w hSw; (try dsimp only at hSw); go_simp; try (with_reducible rfl)
  rotate_left
  (try simp only [Act.put, List.setIfInBounds_toArray])
  refine wpAnyH_take (i := 1) (v := ?_) rfl (by kernel_rfl) (by kernel_rfl) (by kernel_rfl) (fun _ _ _ h => h) (Or.inl ⟨by rfl, ?_⟩) hS0 ?_
  rotate_left
  · intro w hSw; (try dsimp only at hSw); go_simp; try (with_reducible rfl)
  rotate_left
  (try simp only [Act.put])
  refine wpAnyH_take (i := 2) (v := ?_) rfl (by kernel_rfl) (by kernel_rfl) (by kernel_rfl) (fun _ _ _ h => h) (Or.inl ⟨by rfl, ?_⟩) hS0 ?_
  rotate_left
  · intro w hSw; (try dsimp only at hSw); go_simp; try (with_reducible rfl)
  rotate_left
  (try simp only [Act.put])
  refine wpAnyH_take (i := 3) (v := ?_) rfl (by kernel_rfl) (by kernel_rfl) (by kernel_rfl) (fun _ _ _ h => h) (Or.inl ⟨by rfl, ?_⟩) hS0 ?_
  rotate_left
  · intro w hSw; (try dsimp only at hSw); go_simp; try (with_reducible rfl)
  rotate_left
  (try simp only [Act.put])
  refine wpAnyH_take (i := 4) (v := ?_) rfl (by kernel_rfl) (by kernel_rfl) (by kernel_rfl) (fun _ _ _ h => h) (Or.inl ⟨by rfl, ?_⟩) hS0 ?_
  rotate_left
  · intro w hSw; (try dsimp only at hSw); go_simp; try (with_reducible rfl)
  rotate_left
  (try simp only [Act.put])
  refine wpAnyH_take (i := 5) (v := ?_) rfl (by kernel_rfl) (by kernel_rfl) (by kernel_rfl) (fun _ _ _ h => h) (Or.inl ⟨by rfl, ?_⟩) hS0 ?_
  rotate_left
  · intro w hSw; (try dsimp only at hSw); go_simp; try (with_reducible rfl)
  rotate_left
  (try simp only [Act.put])
  refine wpAnyH_take (i := 6) (v := ?_) rfl (by kernel_rfl) (by kernel_rfl) (by kernel_rfl) (fun _ _ _ h => h) (Or.inl ⟨by rfl, ?_⟩) hS0 ?_
  rotate_left
  · intro w hSw; (try dsimp only at hSw); go_simp; try (with_reducible rfl)
  rotate_left
  (try simp only [Act.put])
  refine wpAnyH_take (i := 7) (v := ?_) rfl (by kernel_rfl) (by kernel_rfl) (by kernel_rfl) (fun _ _ _ h => h) (Or.inl ⟨by rfl, ?_⟩) hS0 ?_
  rotate_left
  · intro w hSw; (try dsimp only at hSw); go_simp; try (with_reducible rfl)
  rotate_left
  (try simp only [Act.put])
  refine wpAnyH_take (i := 8) (v := ?_) rfl (by kernel_rfl) (by kernel_rfl) (by kernel_rfl) (fun _ _ _ h => h) (Or.inl ⟨by rfl, ?_⟩) hS0 ?_
  rotate_left
  · intro w hSw; (try dsimp only at hSw); go_simp; try (with_reducible rfl)
  rotate_left
  (try simp only [Act.put])
  refine wpAnyH_take (i := 9) (v := ?_) rfl (by kernel_rfl) (by kernel_rfl) (by kernel_rfl) (fun _ _ _ h => h) (Or.inl ⟨by rfl, ?_⟩) hS0 ?_
  rotate_left
  · intro w hSw; (try dsimp only at hSw); go_simp; try (with_reducible rfl)
  rotate_left
  (try simp only [Act.put])
  refine wpAnyH_take (i := 10) (v := ?_) rfl (by kernel_rfl) (by kernel_rfl) (by kernel_rfl) (fun _ _ _ h => h) (Or.inl ⟨by rfl, ?_⟩) hS0 ?_
  rotate_left
  · intro w hSw; (try dsimp only at hSw); go_simp; try (with_reducible rfl)
  rotate_left
  (try simp only [Act.put])
  refine wpAnyH_take (i := 11) (v := ?_) rfl (by kernel_rfl) (by kernel_rfl) (by kernel_rfl) (fun _ _ _ h => h) (Or.inl ⟨by rfl, ?_⟩) hS0 ?_
  rotate_left
  · intro w hSw; (try dsimp only at hSw); go_simp; try (with_reducible rfl)
  rotate_left
  (try simp only [Act.put])
  refine wpAnyH_take (i := 13) (v := ?_) rfl (by kernel_rfl) (by kernel_rfl) (by kernel_rfl) (fun _ _ _ h => h) (Or.inl ⟨by rfl, ?_⟩) hS0 ?_
  rotate_left
  · intro w hSw; (try dsimp only at hSw); go_simp; try (with_reducible rfl)
  rotate_left
  (try simp only [Act.put])
  refine wpAnyH_take (i := 14) (v := ?_) rfl (by kernel_rfl) (by kernel_rfl) (by kernel_rfl) (fun _ _ _ h => h) (Or.inl ⟨by rfl, ?_⟩) hS0 ?_
  rotate_left
  · intro w hSw; (try dsimp only at hSw); go_simp; try (with_reducible rfl)
  rotate_left
  (try simp only [Act.put])
  refine wpAnyH_take (i := 15) (v := ?_) rfl (by kernel_rfl) (by kernel_rfl) (by kernel_rfl) (fun _ _ _ h => h) (Or.inl ⟨by rfl, ?_⟩) hS0 ?_
  rotate_left
  · intro w hSw; (try dsimp only at hSw); go_simp; try (with_reducible rfl)
  rotate_left
  (try simp only [Act.put])
  refine wpAnyH_take (i := 16) (v := ?_) rfl (by kernel_rfl) (by kernel_rfl) (by kernel_rfl) (fun _ _ _ h => h) (Or.inl ⟨by rfl, ?_⟩) hS0 ?_
  rotate_left
  · intro w hSw; (try dsimp only at hSw); go_simp; try (with_reducible rfl)
  rotate_left
  (try simp only [Act.put])
  refine wpAnyH_take (i := 17) (v := ?_) rfl (by kernel_rfl) (by kernel_rfl) (by kernel_rfl) (fun _ _ _ h => h) (Or.inl ⟨by rfl, ?_⟩) hS0 ?_
  rotate_left
  · intro w hSw; (try dsimp only at hSw); go_simp; try (with_reducible rfl)
  rotate_left
  (try simp only [Act.put])
  refine wpAnyH_take (i := 18) (v := ?_) rfl (by kernel_rfl) (by kernel_rfl) (by kernel_rfl) (fun _ _ _ h => h) (Or.inl ⟨by rfl, ?_⟩) hS0 ?_
  rotate_left
  · intro w hSw; (try dsimp only at hSw); go_simp; try (with_reducible rfl)
  rotate_left
  (try simp only [Act.put])
  refine wpAnyH_take (i := 19) (v := ?_) rfl (by kernel_rfl) (by kernel_rfl) (by kernel_rfl) (fun _ _ _ h => h) (Or.inl ⟨by rfl, ?_⟩) hS0 ?_
  rotate_left
  · intro w hSw; (try dsimp only at hSw); go_simp; try (with_reducible rfl)
  rotate_left
  (try simp only [Act.put])
  refine wpAnyH_take (i := 20) (v := ?_) rfl (by kernel_rfl) (by kernel_rfl) (by kernel_rfl) (fun _ _ _ h => h) (Or.inl ⟨by rfl, ?_⟩) hS0 ?_
  rotate_left
  · intro w hSw; (try dsimp only at hSw); go_simp; try (with_reducible rfl)
  rotate_left
  (try simp only [Act.put])
  refine wpAnyH_ready (rs := [12, 21]) (by kernel_rfl) (by simp) ?_
  refine AllReadyH.cons rfl (fun K hK => ?_) ?_
  ·
    go_simp
    refine hK.out _ _ ?_ (fun _ => ?_)
    · first | exact ⟨c2, c5, c6⟩ | exact HP.out _ _ _ hb1 | exact HP.out _ _ _ (hb1.setr _) | exact HP.out _ _ _ ((hb.drew.alloc _).alloc _) | exact HP.out _ _ _ (((hb.drew.alloc _).alloc _).alloc _)
    clear hK K
    (try simp only [Act.put, List.setIfInBounds_toArray, List.set_cons_zero, List.set_cons_succ])
    refine wpAnyH_ready (rs := [21]) (by kernel_rfl) (by simp) ?_
    refine AllReadyH.cons rfl (fun K hK => ?_) ?_
    ·
      go_simp
      go_at_call 116
      refine (makeRule_any x.vc x.vh o10 o11 _).mono ?_
      rintro e w' ⟨rfl, rfl⟩
      refine hK.out _ _ ?_ (fun _ => ?_)
      · first | exact ⟨c2, c5, c6⟩ | exact HP.out _ _ _ hb1 | exact HP.out _ _ _ (hb1.setr _) | exact HP.out _ _ _ ((hb.drew.alloc _).alloc _) | exact HP.out _ _ _ (((hb.drew.alloc _).alloc _).alloc _)
      clear hK K
      (try simp only [Act.put, List.setIfInBounds_toArray, List.set_cons_zero, List.set_cons_succ])
      refine wpAnyH_ready (rs := [22]) (by kernel_rfl) (by simp) ?_
      refine AllReadyH.cons rfl (fun K hK => ?_) ?_
      ·
        go_simp
        refine hK.out _ _ ?_ (fun _ => ?_)
        · first | exact ⟨c2, c5, c6⟩ | exact HP.out _ _ _ hb1 | exact HP.out _ _ _ (hb1.setr _) | exact HP.out _ _ _ ((hb.drew.alloc _).alloc _) | exact HP.out _ _ _ (((hb.drew.alloc _).alloc _).alloc _)
        clear hK K
        (try simp only [Act.put, List.setIfInBounds_toArray, List.set_cons_zero, List.set_cons_succ])
        refine wpAnyH_ready (rs := [23]) (by kernel_rfl) (by simp) ?_
        refine AllReadyH.cons rfl (fun K hK => ?_) ?_
        ·
          (refine step_append_lies _ ?q1 (.tmp 14) (.tmp 24) 111 ?q2 (B + 1) 149 i0 _ 1 8 Tryz.underlying111 hi hz0 hz1 hz2 rfl Nat.one_pos x.vr t.nr xs ?q3 ((((hr.alloc _).alloc _).alloc _).drew) ⟨w.heap.size + 2, 0, none⟩ 1 1 [.func (.func 155) #[] #[.pointer (some ⟨w.heap.size, 0, none⟩), .pointer (some ⟨w.heap.size + 1, 0, none⟩)]] ?q4 rfl (news3 w _ _ _ _) (func_oneCell _ _ _) Nat.one_pos m63 m47 (base3 w _ _ _ B hB) (w.heap.size + 3) (size3 w _ _ _) ?_; (case q1 => rfl); (case q2 => rfl); (case q3 => rfl); (case q4 => rfl); intro g cap w1 hown1 hgrow hat' hlt; have hb1 : RB B M s t x w1 := ((((hb.alloc _).alloc _).alloc _).drew).grown hgrow hne hneM; have f7m := hb1.freeM 7; have d7m := hb1.m7; have d2m := hb1.c2)
          refine hK.out _ _ ?_ (fun _ => ?_)
          · first | exact ⟨c2, c5, c6⟩ | exact HP.out _ _ _ hb1 | exact HP.out _ _ _ (hb1.setr _) | exact HP.out _ _ _ ((hb.drew.alloc _).alloc _) | exact HP.out _ _ _ (((hb.drew.alloc _).alloc _).alloc _)
          clear hK K
          (try simp only [Act.put, List.setIfInBounds_toArray])
          refine wpAnyH_ready (rs := [24]) (by kernel_rfl) (by simp) ?_
          refine AllReadyH.cons rfl (fun K hK => ?_) ?_
          ·
            go_simp
            refine hK.out _ _ ?_ (fun _ => ?_)
            · first | exact ⟨c2, c5, c6⟩ | exact HP.out _ _ _ hb1 | exact HP.out _ _ _ (hb1.setr _) | exact HP.out _ _ _ ((hb.drew.alloc _).alloc _) | exact HP.out _ _ _ (((hb.drew.alloc _).alloc _).alloc _)
            clear hK K
            (try simp only [Act.put, List.setIfInBounds_toArray, List.set_cons_zero, List.set_cons_succ])
            refine wpAnyH_ready (rs := [25]) (by kernel_rfl) (by simp) ?_
            refine AllReadyH.cons rfl (fun K hK => ?_) ?_
            ·
              go_simp
              refine hK.out _ _ ?_ (fun _ => ?_)
              · first | exact ⟨c2, c5, c6⟩ | exact HP.out _ _ _ hb1 | exact HP.out _ _ _ (hb1.setr _) | exact HP.out _ _ _ ((hb.drew.alloc _).alloc _) | exact HP.out _ _ _ (((hb.drew.alloc _).alloc _).alloc _)
              clear hK K
              (try simp only [Act.put, List.setIfInBounds_toArray, List.set_cons_zero, List.set_cons_succ])
              refine wpAnyH_ready (rs := [26]) (by kernel_rfl) (by simp) ?_
              refine AllReadyH.cons rfl (fun K hK => ?_) ?_
              ·
                go_simp
                refine hK.out _ _ ?_ (fun _ => ?_)
                · first | exact ⟨c2, c5, c6⟩ | exact HP.out _ _ _ hb1 | exact HP.out _ _ _ (hb1.setr _) | exact HP.out _ _ _ ((hb.drew.alloc _).alloc _) | exact HP.out _ _ _ (((hb.drew.alloc _).alloc _).alloc _)
                clear hK K
                (try simp only [Act.put, List.setIfInBounds_toArray, List.set_cons_zero, List.set_cons_succ])
                refine wpAnyH_done (by kernel_rfl) ?_ _
                have hb2 := hb1.setr (.slice (some ⟨g, 0, none⟩) (t.nr + 1) cap)
                have d5 := hb2.c5
                have d6 := hb2.c6
                have d7 := hb2.c7
                have f5 := hb2.free 5
                have f6 := hb2.free 6
                have f7 := hb2.free 7
                have HF : Put (_) := ⟨HS.out.1.end_push h8 hs hat hr HS.out.2 hgrow hown1⟩
                clear hb1 hb2 hown1 hgrow k2 k3 k2' k3' p2 p3 p2' p3' c2 c5 c6 m7 hr hc hh
                go_wp2
                go_end0
                exact ⟨rfl, HF.out⟩
              exact AllReadyH.nil
            exact AllReadyH.nil
          exact AllReadyH.nil
        exact AllReadyH.nil
      exact AllReadyH.nil
    exact AllReadyH.nil
  refine AllReadyH.cons rfl (fun K hK => ?_) ?_
  ·
    go_simp
    go_at_call 116
    refine (makeRule_any x.vc x.vh o10 o11 _).mono ?_
    rintro e w' ⟨rfl, rfl⟩
    refine hK.out _ _ ?_ (fun _ => ?_)
    · first | exact ⟨c2, c5, c6⟩ | exact HP.out _ _ _ hb1 | exact HP.out _ _ _ (hb1.setr _) | exact HP.out _ _ _ ((hb.drew.alloc _).alloc _) | exact HP.out _ _ _ (((hb.drew.alloc _).alloc _).alloc _)
    clear hK K
    (try simp only [Act.put, List.setIfInBounds_toArray, List.set_cons_zero, List.set_cons_succ])
    refine wpAnyH_ready (rs := [12, 22]) (by kernel_rfl) (by simp) ?_
    refine AllReadyH.cons rfl (fun K hK => ?_) ?_
    ·
      go_simp
      refine hK.out _ _ ?_ (fun _ => ?_)
      · first | exact ⟨c2, c5, c6⟩ | exact HP.out _ _ _ hb1 | exact HP.out _ _ _ (hb1.setr _) | exact HP.out _ _ _ ((hb.drew.alloc _).alloc _) | exact HP.out _ _ _ (((hb.drew.alloc _).alloc _).alloc _)
      clear hK K
      (try simp only [Act.put, List.setIfInBounds_toArray, List.set_cons_zero, List.set_cons_succ])
      refine wpAnyH_ready (rs := [22]) (by kernel_rfl) (by simp) ?_
      refine AllReadyH.cons rfl (fun K hK => ?_) ?_
      ·
        go_simp
        refine hK.out _ _ ?_ (fun _ => ?_)
        · first | exact ⟨c2, c5, c6⟩ | exact HP.out _ _ _ hb1 | exact HP.out _ _ _ (hb1.setr _) | exact HP.out _ _ _ ((hb.drew.alloc _).alloc _) | exact HP.out _ _ _ (((hb.drew.alloc _).alloc _).alloc _)
        clear hK K
        (try simp only [Act.put, List.setIfInBounds_toArray, List.set_cons_zero, List.set_cons_succ])
        refine wpAnyH_ready (rs := [23]) (by kernel_rfl) (by simp) ?_
        refine AllReadyH.cons rfl (fun K hK => ?_) ?_
        ·
          (refine step_append_lies _ ?q1 (.tmp 14) (.tmp 24) 111 ?q2 (B + 1) 149 i0 _ 1 8 Tryz.underlying111 hi hz0 hz1 hz2 rfl Nat.one_pos x.vr t.nr xs ?q3 ((((hr.alloc _).alloc _).alloc _).drew) ⟨w.heap.size + 2, 0, none⟩ 1 1 [.func (.func 155) #[] #[.pointer (some ⟨w.heap.size, 0, none⟩), .pointer (some ⟨w.heap.size + 1, 0, none⟩)]] ?q4 rfl (news3 w _ _ _ _) (func_oneCell _ _ _) Nat.one_pos m63 m47 (base3 w _ _ _ B hB) (w.heap.size + 3) (size3 w _ _ _) ?_; (case q1 => rfl); (case q2 => rfl); (case q3 => rfl); (case q4 => rfl); intro g cap w1 hown1 hgrow hat' hlt; have hb1 : RB B M s t x w1 := ((((hb.alloc _).alloc _).alloc _).drew).grown hgrow hne hneM; have f7m := hb1.freeM 7; have d7m := hb1.m7; have d2m := hb1.c2)
          refine hK.out _ _ ?_ (fun _ => ?_)
          · first | exact ⟨c2, c5, c6⟩ | exact HP.out _ _ _ hb1 | exact HP.out _ _ _ (hb1.setr _) | exact HP.out _ _ _ ((hb.drew.alloc _).alloc _) | exact HP.out _ _ _ (((hb.drew.alloc _).alloc _).alloc _)
          clear hK K
          (try simp only [Act.put, List.setIfInBounds_toArray])
          refine wpAnyH_ready (rs := [24]) (by kernel_rfl) (by simp) ?_
          refine AllReadyH.cons rfl (fun K hK => ?_) ?_
          ·
            go_simp
            refine hK.out _ _ ?_ (fun _ => ?_)
            · first | exact ⟨c2, c5, c6⟩ | exact HP.out _ _ _ hb1 | exact HP.out _ _ _ (hb1.setr _) | exact HP.out _ _ _ ((hb.drew.alloc _).alloc _) | exact HP.out _ _ _ (((hb.drew.alloc _).alloc _).alloc _)
            clear hK K
            (try simp only [Act.put, List.setIfInBounds_toArray, List.set_cons_zero, List.set_cons_succ])
            refine wpAnyH_ready (rs := [25]) (by kernel_rfl) (by simp) ?_
            refine AllReadyH.cons rfl (fun K hK => ?_) ?_
            ·
              go_simp
              refine hK.out _ _ ?_ (fun _ => ?_)
              · first | exact ⟨c2, c5, c6⟩ | exact HP.out _ _ _ hb1 | exact HP.out _ _ _ (hb1.setr _) | exact HP.out _ _ _ ((hb.drew.alloc _).alloc _) | exact HP.out _ _ _ (((hb.drew.alloc _).alloc _).alloc _)
              clear hK K
              (try simp only [Act.put, List.setIfInBounds_toArray, List.set_cons_zero, List.set_cons_succ])
              refine wpAnyH_ready (rs := [26]) (by kernel_rfl) (by simp) ?_
              refine AllReadyH.cons rfl (fun K hK => ?_) ?_
              ·
                go_simp
                refine hK.out _ _ ?_ (fun _ => ?_)
                · first | exact ⟨c2, c5, c6⟩ | exact HP.out _ _ _ hb1 | exact HP.out _ _ _ (hb1.setr _) | exact HP.out _ _ _ ((hb.drew.alloc _).alloc _) | exact HP.out _ _ _ (((hb.drew.alloc _).alloc _).alloc _)
                clear hK K
                (try simp only [Act.put, List.setIfInBounds_toArray, List.set_cons_zero, List.set_cons_succ])
                refine wpAnyH_done (by kernel_rfl) ?_ _
                have hb2 := hb1.setr (.slice (some ⟨g, 0, none⟩) (t.nr + 1) cap)
                have d5 := hb2.c5
                have d6 := hb2.c6
                have d7 := hb2.c7
                have f5 := hb2.free 5
                have f6 := hb2.free 6
                have f7 := hb2.free 7
                have HF : Put (_) := ⟨HS.out.1.end_push h8 hs hat hr HS.out.2 hgrow hown1⟩
                clear hb1 hb2 hown1 hgrow k2 k3 k2' k3' p2 p3 p2' p3' c2 c5 c6 m7 hr hc hh
                go_wp2
                go_end0
                exact ⟨rfl, HF.out⟩
              exact AllReadyH.nil
            exact AllReadyH.nil
          exact AllReadyH.nil
        exact AllReadyH.nil
      exact AllReadyH.nil
    refine AllReadyH.cons rfl (fun K hK => ?_) ?_
    ·
      go_simp
      refine hK.out _ _ ?_ (fun _ => ?_)
      · first | exact ⟨c2, c5, c6⟩ | exact HP.out _ _ _ hb1 | exact HP.out _ _ _ (hb1.setr _) | exact HP.out _ _ _ ((hb.drew.alloc _).alloc _) | exact HP.out _ _ _ (((hb.drew.alloc _).alloc _).alloc _)
      clear hK K
      (try simp only [Act.put, List.setIfInBounds_toArray, List.set_cons_zero, List.set_cons_succ])
      refine wpAnyH_ready (rs := [12]) (by kernel_rfl) (by simp) ?_
      refine AllReadyH.cons rfl (fun K hK => ?_) ?_
      ·
        go_simp
        refine hK.out _ _ ?_ (fun _ => ?_)
        · first | exact ⟨c2, c5, c6⟩ | exact HP.out _ _ _ hb1 | exact HP.out _ _ _ (hb1.setr _) | exact HP.out _ _ _ ((hb.drew.alloc _).alloc _) | exact HP.out _ _ _ (((hb.drew.alloc _).alloc _).alloc _)
        clear hK K
        (try simp only [Act.put, List.setIfInBounds_toArray, List.set_cons_zero, List.set_cons_succ])
        refine wpAnyH_ready (rs := [23]) (by kernel_rfl) (by simp) ?_
        refine AllReadyH.cons rfl (fun K hK => ?_) ?_
        ·
          (refine step_append_lies _ ?q1 (.tmp 14) (.tmp 24) 111 ?q2 (B + 1) 149 i0 _ 1 8 Tryz.underlying111 hi hz0 hz1 hz2 rfl Nat.one_pos x.vr t.nr xs ?q3 ((((hr.alloc _).alloc _).alloc _).drew) ⟨w.heap.size + 2, 0, none⟩ 1 1 [.func (.func 155) #[] #[.pointer (some ⟨w.heap.size, 0, none⟩), .pointer (some ⟨w.heap.size + 1, 0, none⟩)]] ?q4 rfl (news3 w _ _ _ _) (func_oneCell _ _ _) Nat.one_pos m63 m47 (base3 w _ _ _ B hB) (w.heap.size + 3) (size3 w _ _ _) ?_; (case q1 => rfl); (case q2 => rfl); (case q3 => rfl); (case q4 => rfl); intro g cap w1 hown1 hgrow hat' hlt; have hb1 : RB B M s t x w1 := ((((hb.alloc _).alloc _).alloc _).drew).grown hgrow hne hneM; have f7m := hb1.freeM 7; have d7m := hb1.m7; have d2m := hb1.c2)
          refine hK.out _ _ ?_ (fun _ => ?_)
          · first | exact ⟨c2, c5, c6⟩ | exact HP.out _ _ _ hb1 | exact HP.out _ _ _ (hb1.setr _) | exact HP.out _ _ _ ((hb.drew.alloc _).alloc _) | exact HP.out _ _ _ (((hb.drew.alloc _).alloc _).alloc _)
          clear hK K
          (try simp only [Act.put, List.setIfInBounds_toArray])
          refine wpAnyH_ready (rs := [24]) (by kernel_rfl) (by simp) ?_
          refine AllReadyH.cons rfl (fun K hK => ?_) ?_
          ·
            go_simp
            refine hK.out _ _ ?_ (fun _ => ?_)
            · first | exact ⟨c2, c5, c6⟩ | exact HP.out _ _ _ hb1 | exact HP.out _ _ _ (hb1.setr _) | exact HP.out _ _ _ ((hb.drew.alloc _).alloc _) | exact HP.out _ _ _ (((hb.drew.alloc _).alloc _).alloc _)
            clear hK K
            (try simp only [Act.put, List.setIfInBounds_toArray, List.set_cons_zero, List.set_cons_succ])
            refine wpAnyH_ready (rs := [25]) (by kernel_rfl) (by simp) ?_
            refine AllReadyH.cons rfl (fun K hK => ?_) ?_
            ·
              go_simp
              refine hK.out _ _ ?_ (fun _ => ?_)
              · first | exact ⟨c2, c5, c6⟩ | exact HP.out _ _ _ hb1 | exact HP.out _ _ _ (hb1.setr _) | exact HP.out _ _ _ ((hb.drew.alloc _).alloc _) | exact HP.out _ _ _ (((hb.drew.alloc _).alloc _).alloc _)
              clear hK K
              (try simp only [Act.put, List.setIfInBounds_toArray, List.set_cons_zero, List.set_cons_succ])
              refine wpAnyH_ready (rs := [26]) (by kernel_rfl) (by simp) ?_
              refine AllReadyH.cons rfl (fun K hK => ?_) ?_
              ·
                go_simp
                refine hK.out _ _ ?_ (fun _ => ?_)
                · first | exact ⟨c2, c5, c6⟩ | exact HP.out _ _ _ hb1 | exact HP.out _ _ _ (hb1.setr _) | exact HP.out _ _ _ ((hb.drew.alloc _).alloc _) | exact HP.out _ _ _ (((hb.drew.alloc _).alloc _).alloc _)
                clear hK K
                (try simp only [Act.put, List.setIfInBounds_toArray, List.set_cons_zero, List.set_cons_succ])
                refine wpAnyH_done (by kernel_rfl) ?_ _
                have hb2 := hb1.setr (.slice (some ⟨g, 0, none⟩) (t.nr + 1) cap)
                have d5 := hb2.c5
                have d6 := hb2.c6
                have d7 := hb2.c7
                have f5 := hb2.free 5
                have f6 := hb2.free 6
                have f7 := hb2.free 7
                have HF : Put (_) := ⟨HS.out.1.end_push h8 hs hat hr HS.out.2 hgrow hown1⟩
                clear hb1 hb2 hown1 hgrow k2 k3 k2' k3' p2 p3 p2' p3' c2 c5 c6 m7 hr hc hh
                go_wp2
                go_end0
                exact ⟨rfl, HF.out⟩
              exact AllReadyH.nil
            exact AllReadyH.nil
          exact AllReadyH.nil
        exact AllReadyH.nil
      exact AllReadyH.nil
    exact AllReadyH.nil
  exact AllReadyH.nil
end
end Go.Proofs.YtgoebckimmofoaaGreatDoor
