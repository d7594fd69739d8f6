import Derived.Lib.TrailingZeros
import Derived.Test.YtgoebckimmofoaaGreatDoorRows
import Derived.WalkKit
import Derived.WalkSpells
import Derived.WalkLawsBesides
import Derived.Deep.QuietTactic
import Derived.BigQuiet
import Derived.RegionTactic
import Derived.Scope
import Derived.WalkMore
import Derived.Deep.LoopGhost
import Derived.Deep.AppendLies
import Derived.Deep.RegionHeld3
import Derived.Laws.Bits64b
import Derived.Laws.IdiomStrings
import Derived.Maps.AppendAt
import Derived.RangeFuncBox
import Derived.Deep.RegionLaw
import Derived.Deep.RegionHeld
import Derived.RangeFuncNested
import Derived.RangeFuncBound
import Derived.RangeFuncCalls
import Derived.RangeFuncLeaves
import Derived.Shelf.Abstract
import Derived.Shelf.RegionOpen
import Derived.OwnWalkIn
import Derived.TacticsInMore
import Derived.LoopNIn
import Derived.LoopIn
import Derived.Stop.RegionWithIn
import Derived.MapKept
import Derived.Lib.Bytealg
import Derived.Lib.IndexLaws
import Derived.Test.YtgoebckimmofoaaGreatDoorB1
import Derived.Test.YtgoebckimmofoaaGreatDoorB4
import Derived.Test.YtgoebckimmofoaaGreatDoorB5
import Derived.Test.YtgoebckimmofoaaGreatDoorB6
import Derived.Test.YtgoebckimmofoaaGreatDoorB7
import Derived.Test.YtgoebckimmofoaaGreatDoorB9
import Derived.Test.YtgoebckimmofoaaGreatDoorB10
import Derived.Test.YtgoebckimmofoaaGreatDoorB11
import Derived.Test.YtgoebckimmofoaaGreatDoorB2
import Derived.Test.YtgoebckimmofoaaGreatDoorB3
import Derived.Laws.EntriesVeiled
/- The reader of formulas in memory. Our own text. -/
namespace Go.Proofs.YtgoebckimmofoaaGreatDoor
open Go.RowKit Go.Lib

/-- A part's cells: what it holds by, whether it is endless, where it is settled. -/
structure PtV where
  fh : Nat
  ch : Array Value
  e : Bool
  fz : Nat
  cz : Array Value
def PtV.cells (p : PtV) : List Value := [.func (.func p.fh) #[] p.ch, .bool p.e, .func (.func p.fz) #[] p.cz]
def PartOk (w : World) (p : PtV) (q : Pt) : Prop := FnP2 w (.func (.func p.fh) #[] p.ch) q.h ∧ p.e = q.e
/-- One that waits: its sign, and what stands left of it. -/
def binS (o : Nat) : Prop := o = 38 ∨ o = 124 ∨ o = 85 ∨ o = 82 ∨ o = 87
def unS (o : Nat) : Prop := o = 33 ∨ o = 88 ∨ o = 70 ∨ o = 71
structure WV where
  o : Nat
  v : Value
def WV.cells (p : WV) : List Value := [.int .u8 (p.o : Nat), p.v]
def FnOrNil (v : Value) : Prop := v = .nilFunc ∨ ∃ f a, v = .func (.func f) #[] a
def WaitOk (w : World) (p : WV) (e : Nat × G) : Prop := p.o = e.1 ∧ e.1 < 256 ∧ FnOrNil p.v ∧ (binS e.1 → FnP w p.v e.2)
theorem PartOk.kp {w w' : World} {p : PtV} {q : Pt} (h : PartOk w p q) (k : KP w w') : PartOk w' p q := ⟨h.1.kp k, h.2⟩
theorem WaitOk.kp {w w' : World} {p : WV} {e : Nat × G} (h : WaitOk w p e) (k : KP w w') : WaitOk w' p e := ⟨h.1, h.2.1, h.2.2.1, fun hb => (h.2.2.2 hb).kp k⟩
/-- Where the two rows lie. -/
structure FJ where
  ap : Option Addr
  cp : Nat
  aw : Option Addr
  cw : Nat
def frest (wh : Value) (np nw opn deep : Nat) (j : FJ) : List Value := [wh, .slice j.ap np j.cp, .slice j.aw nw j.cw, .int .i64 opn, .int .i64 deep]
/-- The reader of formulas in block B: its parts' values, what waits. -/
structure FRv (B M : Nat) (s : ByteArray) (t : T) (wh : Value) (opn deep : Nat) (pvs : List PtV) (wvs : List WV) (j : FJ) (w : World) : Prop where
  g : RG B M 204 (frest wh pvs.length wvs.length opn deep j) s t w
  p : w.ownsRow (B + 1) 160 3 (.slice j.ap pvs.length j.cp) pvs.length (pvs.flatMap PtV.cells)
  q : w.ownsRow (B + 1) 259 2 (.slice j.aw wvs.length j.cw) wvs.length (wvs.flatMap WV.cells)
/-- What changes lies at B or above, and what closures lean on stays. -/
structure Fr (B : Nat) (w w' : World) : Prop where
  b : Below B w w'
  k : KP w w'
theorem soft_FR : soft 204 = true := by decide
theorem soft_W : soft 259 = true := by decide
theorem soft_P : soft 160 = true := by decide
section
variable {B M : Nat} {s : ByteArray} {t t' : T} {wh : Value} {opn deep : Nat} {pvs : List PtV} {wvs : List WV} {j : FJ} {w w' w2 : World}
theorem Fr.refl (B : Nat) (w : World) : Fr B w w := ⟨Below.refl _ _, KP.refl _⟩
theorem Fr.trans (h : Fr B w w') (k : Fr B w' w2) : Fr B w w2 := ⟨h.b.trans k.b, h.k.trans k.k⟩
theorem Fr.of_below (h : Below w.heap.size w w') (hB : B ≤ w.heap.size) : Fr B w w' := ⟨h.mono hB, KP.of_below h⟩
theorem FRv.lt (h : FRv B M s t wh opn deep pvs wvs j w) : B < w.heap.size := h.g.lt
theorem FRv.c5 (h : FRv B M s t wh opn deep pvs wvs j w) : w.cell? ⟨B, 5, none⟩ = some wh := by simp [World.cell?, h.g.blk, rblk, frest]
theorem FRv.c6 (h : FRv B M s t wh opn deep pvs wvs j w) : w.cell? ⟨B, 6, none⟩ = some (.slice j.ap pvs.length j.cp) := by simp [World.cell?, h.g.blk, rblk, frest]
theorem FRv.c7 (h : FRv B M s t wh opn deep pvs wvs j w) : w.cell? ⟨B, 7, none⟩ = some (.slice j.aw wvs.length j.cw) := by simp [World.cell?, h.g.blk, rblk, frest]
theorem FRv.c8 (h : FRv B M s t wh opn deep pvs wvs j w) : w.cell? ⟨B, 8, none⟩ = some (.int .i64 opn) := by simp [World.cell?, h.g.blk, rblk, frest]
theorem FRv.c9 (h : FRv B M s t wh opn deep pvs wvs j w) : w.cell? ⟨B, 9, none⟩ = some (.int .i64 deep) := by simp [World.cell?, h.g.blk, rblk, frest]
theorem FRv.free (h : FRv B M s t wh opn deep pvs wvs j w) (i : Nat) : w.frozen? ⟨B, i, none⟩ = false := h.g.free i
theorem FRv.below (h : FRv B M s t wh opn deep pvs wvs j w) (hb : Below w.heap.size w w') : FRv B M s t wh opn deep pvs wvs j w' :=
  ⟨h.g.move (hb.block _ h.lt) (hb.block _ (Nat.lt_trans h.g.lo h.lt)), hb.ownsRow' h.p, hb.ownsRow' h.q⟩
theorem FRv.alloc (h : FRv B M s t wh opn deep pvs wvs j w) (o : Obj) : FRv B M s t wh opn deep pvs wvs j (w.alloc o) := h.below ((Below.refl _ _).alloc (Nat.le_refl _) _)
/-- What a step of the reader alone leaves. -/
theorem FRv.up (h : FRv B M s t wh opn deep pvs wvs j w) (g : RG B M 204 (frest wh pvs.length wvs.length opn deep j) s t' w') (e : Ex B w w') : FRv B M s t' wh opn deep pvs wvs j w' :=
  ⟨g, e.ownsRow (Nat.lt_succ_self _) h.p, e.ownsRow (Nat.lt_succ_self _) h.q⟩
theorem FRv.fr (h : FRv B M s t wh opn deep pvs wvs j w) (e : Ex B w w') : Fr B w w' := ⟨e.below (Nat.le_refl _) (Nat.le_of_lt h.lt), KP.of_ex e h.g.blk soft_FR⟩
/-- A store into the reader's own block. -/
theorem FRv.frSet (h : FRv B M s t wh opn deep pvs wvs j w) (i : Nat) (v : Value) : Fr B w (w.setCell ⟨B, i, none⟩ v) := h.fr ((Ex.refl B w).setCell (.inl rfl) v)
theorem FRv.set5 (h : FRv B M s t wh opn deep pvs wvs j w) (v : Value) : FRv B M s t v opn deep pvs wvs j (w.setCell ⟨B, 5, none⟩ v) :=
  ⟨h.g.set 5 v (by simp [rblk, frest]) rfl, ((Ex.refl B w).setCell (.inl rfl) v).ownsRow (Nat.lt_succ_self _) h.p, ((Ex.refl B w).setCell (.inl rfl) v).ownsRow (Nat.lt_succ_self _) h.q⟩
theorem FRv.set8 (h : FRv B M s t wh opn deep pvs wvs j w) (k : Nat) : FRv B M s t wh k deep pvs wvs j (w.setCell ⟨B, 8, none⟩ (.int .i64 k)) :=
  ⟨h.g.set 8 _ (by simp [rblk, frest]) rfl, ((Ex.refl B w).setCell (.inl rfl) _).ownsRow (Nat.lt_succ_self _) h.p, ((Ex.refl B w).setCell (.inl rfl) _).ownsRow (Nat.lt_succ_self _) h.q⟩
theorem FRv.set9 (h : FRv B M s t wh opn deep pvs wvs j w) (k : Nat) : FRv B M s t wh opn k pvs wvs j (w.setCell ⟨B, 9, none⟩ (.int .i64 k)) :=
  ⟨h.g.set 9 _ (by simp [rblk, frest]) rfl, ((Ex.refl B w).setCell (.inl rfl) _).ownsRow (Nat.lt_succ_self _) h.p, ((Ex.refl B w).setCell (.inl rfl) _).ownsRow (Nat.lt_succ_self _) h.q⟩
/-- The row of parts has grown, and the block knows. -/
theorem FRv.grownP {pvs' : List PtV} {ap' : Option Addr} {cp' : Nat} (h : FRv B M s t wh opn deep pvs wvs j w) (g : w.grownBy w' (Value.slice j.ap pvs.length j.cp).ownBlock) (ho : w'.ownsRow (B + 1) 160 3 (.slice ap' pvs'.length cp') pvs'.length (pvs'.flatMap PtV.cells)) :
    FRv B M s t wh opn deep pvs' wvs { j with ap := ap', cp := cp' } (w'.setCell ⟨B, 6, none⟩ (.slice ap' pvs'.length cp')) ∧ Fr B w (w'.setCell ⟨B, 6, none⟩ (.slice ap' pvs'.length cp')) := by
  have hB := ne_own (Nat.lt_succ_self B) h.p
  have hM := ne_own (Nat.lt_trans h.g.lo (Nat.lt_succ_self B)) h.p
  have g1 := h.g.grown g hB hM
  have ex : Ex B w' (w'.setCell ⟨B, 6, none⟩ (.slice ap' pvs'.length cp')) := (Ex.refl B w').setCell (.inl rfl) _
  have q1 : w'.ownsRow (B + 1) 259 2 (.slice j.aw wvs.length j.cw) wvs.length (wvs.flatMap WV.cells) := h.q.kept g (apart_of_types h.q h.p (by decide))
  refine ⟨⟨g1.set 6 _ (by simp [rblk, frest]) rfl, ex.ownsRow (Nat.lt_succ_self _) ho, ex.ownsRow (Nat.lt_succ_self _) q1⟩, ⟨?_, ?_⟩⟩
  · exact ((Below.refl B w).grown g (Nat.le_of_lt h.lt) (ge_own (Nat.le_succ _) h.p)).setCell (Nat.le_refl _) _
  · exact (KP.grown h.p soft_P g).trans (KP.of_ex ex g1.blk soft_FR)
/-- So the row of what waits. -/
theorem FRv.grownW {wvs' : List WV} {aw' : Option Addr} {cw' : Nat} (h : FRv B M s t wh opn deep pvs wvs j w) (g : w.grownBy w' (Value.slice j.aw wvs.length j.cw).ownBlock) (ho : w'.ownsRow (B + 1) 259 2 (.slice aw' wvs'.length cw') wvs'.length (wvs'.flatMap WV.cells)) :
    FRv B M s t wh opn deep pvs wvs' { j with aw := aw', cw := cw' } (w'.setCell ⟨B, 7, none⟩ (.slice aw' wvs'.length cw')) ∧ Fr B w (w'.setCell ⟨B, 7, none⟩ (.slice aw' wvs'.length cw')) := by
  have hB := ne_own (Nat.lt_succ_self B) h.q
  have hM := ne_own (Nat.lt_trans h.g.lo (Nat.lt_succ_self B)) h.q
  have g1 := h.g.grown g hB hM
  have ex : Ex B w' (w'.setCell ⟨B, 7, none⟩ (.slice aw' wvs'.length cw')) := (Ex.refl B w').setCell (.inl rfl) _
  have q1 : w'.ownsRow (B + 1) 160 3 (.slice j.ap pvs.length j.cp) pvs.length (pvs.flatMap PtV.cells) := h.p.kept g (apart_of_types h.p h.q (by decide))
  refine ⟨⟨g1.set 7 _ (by simp [rblk, frest]) rfl, ex.ownsRow (Nat.lt_succ_self _) q1, ex.ownsRow (Nat.lt_succ_self _) ho⟩, ⟨?_, ?_⟩⟩
  · exact ((Below.refl B w).grown g (Nat.le_of_lt h.lt) (ge_own (Nat.le_succ _) h.q)).setCell (Nat.le_refl _) _
  · exact (KP.grown h.q soft_W g).trans (KP.of_ex ex g1.blk soft_FR)
theorem wcells_len : ∀ (l : List WV), (l.flatMap WV.cells).length = l.length * 2
  | [] => rfl
  | x :: l => by
    rw [List.flatMap_cons, List.length_append, wcells_len l, List.length_cons]
    show 2 + l.length * 2 = _
    omega
/-- The innermost goes. -/
theorem FRv.pop {x : WV} (h : FRv B M s t wh opn deep pvs (wvs ++ [x]) j w) : FRv B M s t wh opn deep pvs wvs j (w.setCell ⟨B, 7, none⟩ (.slice j.aw wvs.length j.cw)) := by
  have ex : Ex B w (w.setCell ⟨B, 7, none⟩ (.slice j.aw wvs.length j.cw)) := (Ex.refl B w).setCell (.inl rfl) _
  refine ⟨h.g.set 7 _ (by simp [rblk, frest]) rfl, ex.ownsRow (Nat.lt_succ_self _) h.p, ex.ownsRow (Nat.lt_succ_self _) ?_⟩
  obtain ⟨h1, h2⟩ := h.q
  have hl : (wvs.flatMap WV.cells).length = wvs.length * 2 := wcells_len wvs
  refine ⟨hl, ?_⟩
  rcases h2 with ⟨_, h0⟩ | ⟨g, cap, cur, e, hb, hg, r1, r2, r3, r4⟩
  · simp at h0
  · simp only [Value.slice.injEq] at e
    obtain ⟨e1, _, e2⟩ := e
    refine .inr ⟨g, cap, cur, by rw [e1, e2], hb, hg, by rw [List.length_append] at r1; omega, r2, r3, ?_⟩
    have := congrArg (List.take (wvs.length * 2)) r4
    rw [List.take_take] at this
    rw [show min (wvs.length * 2) ((wvs ++ [x]).length * 2) = wvs.length * 2 by rw [List.length_append]; omega] at this
    rw [this, List.flatMap_append, List.take_append_of_le_length (by omega), List.take_of_length_le (by omega)]
/-- The innermost, in its cells. -/
theorem FRv.last {x : WV} (h : FRv B M s t wh opn deep pvs (wvs ++ [x]) j w) : ∃ g, j.aw = some ⟨g, 0, none⟩ ∧ w.cell? ⟨g, wvs.length * 2, none⟩ = some (.int .u8 (x.o : Nat)) ∧ w.cell? ⟨g, wvs.length * 2 + 1, none⟩ = some x.v ∧ wvs.length + 1 ≤ j.cw := by
  obtain ⟨h1, h2⟩ := h.q
  have hl : (wvs.flatMap WV.cells).length = wvs.length * 2 := wcells_len wvs
  rcases h2 with ⟨_, h0⟩ | ⟨g, cap, cur, e, hb, hg, r1, r2, r3, r4⟩
  · simp at h0
  · simp only [Value.slice.injEq] at e
    obtain ⟨e1, _, e2⟩ := e
    have key : ∀ i u, (((wvs ++ [x]).flatMap WV.cells))[i]? = some u → cur[i]? = some u := fun i u hu => by
      rw [← r4, List.getElem?_take] at hu
      split at hu
      · simpa using hu
      · cases hu
    have e3 : (wvs ++ [x]).flatMap WV.cells = wvs.flatMap WV.cells ++ [.int .u8 (x.o : Nat), x.v] := by rw [List.flatMap_append]; simp [WV.cells]
    refine ⟨g, e1, ?_, ?_, by rw [e2]; simpa using r1⟩
    · have := key (wvs.length * 2) (.int .u8 (x.o : Nat)) (by rw [e3, List.getElem?_append_right (by omega), hl]; simp)
      simp [World.cell?, hg, this]
    · have := key (wvs.length * 2 + 1) x.v (by rw [e3, List.getElem?_append_right (by omega), hl]; simp)
      simp [World.cell?, hg, this]
end
end Go.Proofs.YtgoebckimmofoaaGreatDoor

/- The code's reader: a condition of a rule is kept. Our own text. -/
namespace Go.Proofs.YtgoebckimmofoaaGreatDoor
open Go.RowKit Go.Lib

theorem Tryz.infoC : (Tryz.prog.info? 217).map (fun i => (i.zero, i.size, i.bytes)) = some (some .nilFunc, 1, 8) := by kernel_rfl
theorem Tryz.infoD : (Tryz.prog.info? 270).map (fun i => (i.zero, i.size, i.bytes)) = some (some .nilFunc, 1, 8) := by kernel_rfl
theorem Tryz.infoR : (Tryz.prog.info? 149).map (fun i => (i.zero, i.size, i.bytes)) = some (some .nilFunc, 1, 8) := by kernel_rfl
theorem nil_oneCell : ∀ u ∈ [Value.nilFunc], u.oneCell' = true := by
  intro u hu; simp at hu; subst hu; rfl

section
variable {B M N : Nat} {s : ByteArray} {vs : List V2} {t : T} {x : Junk} {w0 w w5 : World} {cl : List (Tm × Tm)} {dl : List Chg} {rl : List RA} {v : Value} {ys : List Value} {g cap : Nat}
/-- A row of the reader has grown: what else stands. -/
theorem St.grown_fail (h : St B M N s vs t x cl dl rl w0 w) {e : TypeId} {vv : Value} {n : Nat} (ho : w.ownsRow N e 1 vv n ys) (o : Obj) (hg : (w.alloc o).grownBy w5 vv.ownBlock) (i : Nat) (u : Value) : Below M w0 (w5.setCell ⟨B, i, none⟩ u) := by
  have hM := h.rb.lo
  have hN := h.hN
  have h2 : Below M w0 (w.alloc o) := h.lo.alloc (by have := h.rb.ltM; omega) _
  exact (h2.grown hg (by have := h.rb.ltM; simp; omega) (ge_own (by omega) ho)).setCell (by show M ≤ B; omega) _
theorem St.cond_fail (h : St B M N s vs t x cl dl rl w0 w) (ho : w.ownsRow N 217 1 x.vc cl.length ys) (hg : (w.alloc (.cells #[v] 217)).grownBy w5 x.vc.ownBlock) (u : Value) : Fail B M s t w0 (w5.setCell ⟨B, 5, none⟩ u) := by
  have hM := h.rb.lo
  have hN := h.hN
  exact ⟨_, ((h.rb.alloc _).grown hg (ne_own hN ho) (ne_own (by omega) ho)).set5 u, h.grown_fail ho _ hg 5 u⟩
theorem St.cond_push (h : St B M N s vs t x cl dl rl w0 w) {c : Tm × Tm} (ha : cl.length < t.at_) (ho : w.ownsRow N 217 1 x.vc cl.length ys) (hm : All2 (fun v c => FnK 0 w v (fun y => .bool (cdP s c y))) ys cl) (hv : FnK 0 w v (fun y => .bool (cdP s c y)))
    (hg : (w.alloc (.cells #[v] 217)).grownBy w5 x.vc.ownBlock) (hr : w5.ownsRow N 217 1 (.slice (some ⟨g, 0, none⟩) (cl.length + 1) cap) (cl.length + 1) (ys ++ [v])) :
    St B M N s vs t { x with vc := .slice (some ⟨g, 0, none⟩) (cl.length + 1) cap } (cl ++ [c]) dl rl w0 (w5.setCell ⟨B, 5, none⟩ (.slice (some ⟨g, 0, none⟩) (cl.length + 1) cap)) := by
  have hM := h.rb.lo
  have hN := h.hN
  have hb5 := (h.rb.alloc (.cells #[v] 217)).grown hg (ne_own hN ho) (ne_own (by omega) ho)
  have kA : ∀ Z, Kp Z w (w.alloc (.cells #[v] 217)) := fun Z => Kp.alloc _ _ _
  have kG : Kp N (w.alloc (.cells #[v] 217)) w5 := Kp.grown (ho.alloc _) (.inr ⟨by decide, Nat.le_refl _⟩) hg
  have kS : ∀ Z, Kp Z w5 (w5.setCell ⟨B, 5, none⟩ (.slice (some ⟨g, 0, none⟩) (cl.length + 1) cap)) := fun Z => Kp.softSet (p := ⟨B, 5, none⟩) hb5.g.blk soft_R _
  have kN : Kp N w (w5.setCell ⟨B, 5, none⟩ (.slice (some ⟨g, 0, none⟩) (cl.length + 1) cap)) := ((kA N).trans kG).trans (kS N)
  have k0 := kN.mono (Nat.zero_le _)
  obtain ⟨⟨xs, r1, r2⟩, -, ⟨zs, d1, d2⟩⟩ := h.rw
  have FR := ownsRow_setCell_below ((r1.alloc (.cells #[v] 217)).kept hg (apart_of_types r1 ho (by decide))) (a := ⟨B, 5, none⟩) (Nat.lt_succ_self B) (.slice (some ⟨g, 0, none⟩) (cl.length + 1) cap)
  have FH := ownsRow_setCell_below ((d1.alloc (.cells #[v] 217)).kept hg (apart_of_types d1 ho (by decide))) (a := ⟨B, 5, none⟩) hN (.slice (some ⟨g, 0, none⟩) (cl.length + 1) cap)
  have FC := ownsRow_setCell_below hr (a := ⟨B, 5, none⟩) hN (.slice (some ⟨g, 0, none⟩) (cl.length + 1) cap)
  exact ⟨h.nr, h.l8, h.hN, Nat.le_trans h.hNw k0.size, (by simp; omega), h.ld, h.d3, hb5.set5 _,
    ⟨⟨xs, FR, r2.mono (fun _ _ h => h.kp kN)⟩, ⟨ys ++ [v], by rw [List.length_append]; exact FC, All2.snoc (R := fun v c => FnK 0 (w5.setCell ⟨B, 5, none⟩ (.slice (some ⟨g, 0, none⟩) (cl.length + 1) cap)) v (fun y => .bool (cdP s c y))) (b := c) (hv.kp k0) (hm.mono (fun _ _ h => h.kp k0))⟩, ⟨zs, FH, d2.mono (fun _ _ h => h.kp k0)⟩⟩,
    h.grown_fail ho _ hg 5 _, h.gf.same ⟨rfl, rfl, rfl, rfl, rfl, rfl⟩, h.vl⟩

theorem cond_parts {t' : T} (h : pCond s t = (true, t')) : t.at_ < t'.at_ := by
  unfold pCond at h
  split at h
  · cases h
  · next t1 e1 =>
    have s1 := pTerm_same e1
    split at h
    · cases h
    · next t2 e2 =>
      obtain ⟨rfl, _⟩ := pCmp_same e2
      split at h
      · cases h
      · next t3 e3 =>
        have s3 := (pTerm_same e3).1
        have : t1.adv.at_ = t1.at_ + 1 := rfl
        cases h; omega
set_option maxRecDepth 100000 in
set_option maxHeartbeats 1600000 in
theorem ruleCond_any {b : Bool} {t' : T} (hs : s.size ≤ 120) (hat : t.at_ ≤ s.size) (h : St B M N s vs t x cl dl rl w0 w) (hp : pCond s t = (b, t')) :
    Calls Tryz.prog 76 #[.pointer (some ⟨B, 0, none⟩)] w fun e w' => e = .returned (.bool b) ∧ Done b (Fail B M s t' w0 w') (∃ x', St B M N s vs t' x' (cl ++ [cdOf s t.at_]) dl rl w0 w') := by
  obtain ⟨i0, hi, hz0, hz1, hz2⟩ := info_parts Tryz.infoC
  have sm := pCond_same hp hat
  have hNw := h.hNw
  cases b with
  | false =>
    go_enter Tryz.func76, Tryz.ntmps76
    go_wp2_with fail
    refine (cond_no hs hat h.rb.g hp).mono ?_; rintro e w1 ⟨rfl, hg1, hx1⟩
    have hb1 : RB B M s t' x w1 := h.rb.up hg1 hx1 sm.2.1 sm.2.2.2.1
    have h1 := h.ex hb1 hx1 sm.1 sm.2.2.1 sm.2.1
    have c5 := hb1.c5
    obtain ⟨ys, ho, hm⟩ := h1.rw.c
    have HH : Put (_ ∧ _) := ⟨h1, ho⟩
    have hl := h1.lc
    have hsz := hx1.size
    clear h1 h hg1 hb1 hx1 hm
    go_wp2_with (at_builtin; refine wpList_append_own _ rfl _ _ 116 rfl N 217 i0 .nilFunc 1 8 Tryz.underlying116 hi hz0 hz1 hz2 rfl Nat.one_pos _ _ _ rfl (HH.out.2.alloc _) ⟨w1.heap.size, 0, none⟩ 1 1 [.nilFunc] rfl rfl (cell_one_new _ _ _) nil_oneCell (by unfold maxLen; omega) (by omega) (by simp; omega) ?_)
    intro v' w5 hown' hgrow _
    obtain ⟨g5, cap5, rfl⟩ := ownsRow_succ hown'
    have hb5 := (HH.out.1.rb.alloc (.cells #[.nilFunc] 217)).grown hgrow (ne_own HH.out.1.hN HH.out.2) (ne_own (by have := HH.out.1.rb.lo; have := HH.out.1.hN; omega) HH.out.2)
    have d5 := hb5.c5
    have f5 := hb5.free 5
    have FIN : Put (Fail B M s t' w0 (w5.setCell ⟨B, 5, none⟩ (.slice (some ⟨g5, 0, none⟩) (cl.length + 1) cap5))) := ⟨HH.out.1.cond_fail HH.out.2 hgrow _⟩
    clear hb5 hown' hgrow ho HH
    go_wp2
    go_ret
    exact ⟨rfl, FIN.out⟩
  | true =>
    have hlt := cond_parts hp
    go_enter Tryz.func76, Tryz.ntmps76
    go_wp2_with fail
    refine (cond_yes soft_R hs hat h.rb.g hp).mono ?_; rintro e w1 ⟨⟨f1, a1, rfl, hf1⟩, hg1, hx1⟩
    have hb1 : RB B M s t' x w1 := h.rb.up hg1 hx1 sm.2.1 sm.2.2.2.1
    have h1 := h.ex hb1 hx1 sm.1 sm.2.2.1 sm.2.1
    have c5 := hb1.c5
    obtain ⟨ys, ho, hm⟩ := h1.rw.c
    have HH : Put (_ ∧ _ ∧ _ ∧ _) := ⟨h1, ho, hm, hf1⟩
    have hl := h.lc
    have hsz := hx1.size
    clear h1 h hg1 hb1 hx1 hm hf1
    go_wp2_with (at_builtin; refine wpList_append_own _ rfl _ _ 116 rfl N 217 i0 .nilFunc 1 8 Tryz.underlying116 hi hz0 hz1 hz2 rfl Nat.one_pos _ _ _ rfl (HH.out.2.1.alloc _) ⟨w1.heap.size, 0, none⟩ 1 1 [.func f1 #[] a1] rfl rfl (cell_one_new _ _ _) (func_oneCell _ _ _) (by unfold maxLen; omega) (by omega) (by simp; omega) ?_)
    intro v' w5 hown' hgrow _
    obtain ⟨g5, cap5, rfl⟩ := ownsRow_succ hown'
    have hb5 := (HH.out.1.rb.alloc (.cells #[.func f1 #[] a1] 217)).grown hgrow (ne_own HH.out.1.hN HH.out.2.1) (ne_own (by have := HH.out.1.rb.lo; have := HH.out.1.hN; omega) HH.out.2.1)
    have d5 := hb5.c5
    have f5 := hb5.free 5
    have FIN : Put (∃ x', St B M N s vs t' x' (cl ++ [cdOf s t.at_]) dl rl w0 (w5.setCell ⟨B, 5, none⟩ (.slice (some ⟨g5, 0, none⟩) (cl.length + 1) cap5))) := ⟨_, HH.out.1.cond_push (by omega) HH.out.2.1 HH.out.2.2.1 HH.out.2.2.2 hgrow hown'⟩
    clear hb5 hown' hgrow ho HH
    go_wp2
    go_ret
    exact ⟨rfl, FIN.out⟩
end
end Go.Proofs.YtgoebckimmofoaaGreatDoor

/- What a variable is changed to: read, and what it means. Our own text. -/
namespace Go.Proofs.YtgoebckimmofoaaGreatDoor
open Go.RowKit Go.Lib

theorem fn84_any (b c : Nat) (y : Int) (h1 : 1 ≤ c) (h4 : c ≤ 4) (W : World) (hb : W.heap[b]? = some (.cells #[.int .i64 c] 3 (0, 0))) : Calls Tryz.prog 152 #[.int .u8 y, .pointer (some ⟨b, 0, none⟩)] W fun e W' => e = .returned (.int .u8 (2 ^ c - 1 : Nat)) ∧ W' = W := by
  have cc := box_cell hb
  go_enter Tryz.func152, Tryz.ntmps152
  go_wp2_with fail
  refine (below8_any c h1 h4 W).mono ?_
  rintro e w' ⟨rfl, rfl⟩
  go_wp2
  go_ret
  exact ⟨rfl, rfl⟩
set_option maxRecDepth 100000 in
set_option maxHeartbeats 1600000 in
theorem fn86_any (b1 b2 b3 m c y : Nat) (hy : y < 64) (h1 : 1 ≤ c) (h4 : c ≤ 4) (hm : m ≤ 3) (v : Value) (L : Nat → Nat) (hL3 : L y ≤ 3) (w W : World) (hW : Kp 0 w W) (h0 : 0 < W.heap.size) (hT : Tab W) (hl : FnK 0 w v (fun x => .int .i64 (L x : Nat)))
    (x1 : W.heap[b1]? = some (.cells #[v] 265 (0, 0))) (x2 : W.heap[b2]? = some (.cells #[.int .i64 m] 3 (0, 0))) (x3 : W.heap[b3]? = some (.cells #[.int .i64 c] 3 (0, 0))) :
    Calls Tryz.prog 154 #[.int .u8 (y : Nat), .pointer (some ⟨b1, 0, none⟩), .pointer (some ⟨b2, 0, none⟩), .pointer (some ⟨b3, 0, none⟩)] W fun e W' => e = .returned (.int .u8 (2 ^ ((L y + m) % c) : Nat)) ∧ Below W.heap.size W W' := by
  obtain ⟨fl, cl, rfl, el, kl⟩ := hl
  have c1 := box_cell x1
  have c2 := box_cell x2
  have c3 := box_cell x3
  have HL : Put (∀ W2, Below W.heap.size W W2 → Calls Tryz.prog fl (#[.int .u8 (y : Nat)] ++ cl) W2 fun e W' => e = .returned (.int .i64 ((L y : Nat) : Int)) ∧ Below W2.heap.size W2 W') := ⟨fun W2 h2 => kl W2 (hW.trans (Kp.of_below h2)) (Nat.lt_of_lt_of_le h0 h2.size) (hT.below h2 h0) y hy⟩
  have l1 := lt_of_block x1
  have l2 := lt_of_block x2
  have l3 := lt_of_block x3
  generalize L y = a at *
  have hlt : (a + m) % c < 8 := Nat.lt_of_lt_of_le (Nat.mod_lt _ (by omega)) (by omega)
  have hmt : Int.tmod ((a : Int) + (m : Int)) (c : Int) = (((a + m) % c : Nat) : Int) := by
    rw [Int.tmod_eq_emod_of_nonneg (by omega)]; simp
  have HC : Put (∀ W2, Calls Tryz.prog 108 #[.int .u8 0, .int .i64 (Int.tmod ((a : Int) + (m : Int)) (c : Int))] W2 fun e W' => e = .returned (.int .u8 (2 ^ ((a + m) % c) : Nat)) ∧ W' = W2) := ⟨fun W2 => by rw [hmt]; have := with8_any 0 ((a + m) % c) (by decide) hlt W2; simpa using this⟩
  clear hmt
  have hne : ((c : Int) == 0) = false := by simp; omega
  have hne' : ¬ ((c : Int) = 0) := by omega
  have hc0 : ¬ (c = 0) := by omega
  have hw2 : IntKind.i64.wrap ((a : Int) + (m : Int)) = (a : Int) + (m : Int) := by simp [IntKind.wrap, IntKind.signed, IntKind.bits]; omega
  have hdr : Below W.heap.size W W.drew := ⟨rfl, rfl, rfl, Nat.le_refl _, fun _ _ => rfl⟩
  clear x1 x2 x3 kl hW hT
  generalize (a + m) % c = r at *
  go_enter Tryz.func154, Tryz.ntmps154
  go_wp2_with fail
  go_region_held3 (fun w' => ∀ b o, b < W.heap.size → w'.cell? ⟨b, o, none⟩ = W.cell? ⟨b, o, none⟩)
    (first
      | exact fun b o hb => (hbL'.cell (p := ⟨b, o, none⟩) hb)
      | exact fun _ _ _ => rfl
      | go_keep)
    (first
      | (with_reducible refine (HC.out wL).mono ?_; rintro e wC ⟨rfl, rfl⟩)
      | (refine (HL.out W.drew hdr).mono ?_; rintro e wL ⟨rfl, hbL⟩; have hbL' : Below W.heap.size W wL := hdr.trans hbL))
  all_goals
    go_wp2
    go_ret
    exact ⟨rfl, hbL'⟩


def pTo (s : ByteArray) (t : T) : Bool × T :=
  match num? s t.at_ 63 0 0 with
  | some _ => (true, t.adv)
  | none => match pTerm s t with
    | none => (false, t)
    | some t1 => match num? s t1.at_ 43 0 0 with
      | none => (true, t1)
      | some _ => match num? s t1.adv.at_ 48 0 3 with
        | none => (false, t1.adv)
        | some _ => (true, t1.adv.adv)
theorem pTo_same {s : ByteArray} {t t' : T} {b : Bool} (h : pTo s t = (b, t')) : t.at_ ≤ t'.at_ ∧ t'.n = t.n ∧ t'.nr = t.nr ∧ t'.chd = t.chd ∧ (t.at_ ≤ s.size → t'.at_ ≤ s.size) := by
  unfold pTo at h; split at h
  · next e => cases h; have := num_lt e; exact ⟨Nat.le_succ _, rfl, rfl, rfl, fun _ => this⟩
  · split at h
    · cases h; exact ⟨Nat.le_refl _, rfl, rfl, rfl, id⟩
    · next t1 e =>
      have l1 := pTerm_lt e
      have s1 := pTerm_same e
      split at h
      · cases h; exact ⟨by omega, s1.2.1, s1.2.2.1, s1.2.2.2, fun _ => l1⟩
      · next e2 =>
        have l2 := num_lt e2
        split at h
        · cases h; exact ⟨by show t.at_ ≤ t1.at_ + 1; omega, s1.2.1, s1.2.2.1, s1.2.2.2, fun _ => l2⟩
        · next e3 =>
          have l3 : t1.at_ + 1 < s.size := num_lt e3
          cases h; exact ⟨by show t.at_ ≤ t1.at_ + 1 + 1; omega, s1.2.1, s1.2.2.1, s1.2.2.2, fun _ => l3⟩


/-- The change that stands at a place. -/
def chOf (s : ByteArray) (p : Nat) : Chg := match num? s (p + 2) 63 0 0 with
  | some _ => (((byteAt s p - 97 : Nat) : Int), (p : Int), true, (0, 0, 0))
  | none => (((byteAt s p - 97 : Nat) : Int), (p : Int), false, tmOf s (p + 2))
theorem toP_any {s : ByteArray} {p k : Nat} (h : num? s (p + 2) 63 0 0 = some k) (c y : Nat) : toP s (chOf s p) c y = 2 ^ c - 1 := by
  unfold chOf; rw [h]; rfl
theorem toP_term {s : ByteArray} {p : Nat} {t t1 : T} (h : num? s (p + 2) 63 0 0 = none) (ht : t.at_ = p + 2) (h1 : pTerm s t = some t1) (c y : Nat) : toP s (chOf s p) c y = 2 ^ ((tmV (tmOf s t.at_) y + (moreAt s false (t.at_ : Int)).toNat) % c) := by
  have := tmOf_at h1
  unfold chOf; rw [h]; unfold toP; simp only; rw [← ht, this]
theorem more0 {s : ByteArray} {q : Nat} (h : num? s (q + 1) 43 0 0 = none) : (moreAt s false (q : Int)).toNat = 0 := by
  unfold moreAt
  simp only [Int.toNat_natCast]
  rw [if_neg]; rfl
  intro hb
  by_cases hl : q + 1 < s.size
  · rw [byteAt_lt hl] at hb; exact num_not h hl hb
  · rw [byteAt_ge hl] at hb; omega
theorem more1 {s : ByteArray} {q k d : Nat} (h : num? s (q + 1) 43 0 0 = some k) (h2 : num? s (q + 2) 48 0 3 = some d) : (moreAt s false (q : Int)).toNat = d := by
  unfold moreAt
  simp only [Int.toNat_natCast]
  have e1 := num_byte h
  have e2 := num_byte h2
  have := (num_le h).2
  rw [if_pos (by omega), e2]; simp

section
variable {B M : Nat} {s : ByteArray} {t : T} {x : Junk} {w : World}
set_option maxRecDepth 100000 in
set_option maxHeartbeats 1600000 in
theorem to_yes {t' : T} (c p : Nat) (h1 : 1 ≤ c) (h4 : c ≤ 4) (hs : s.size ≤ 120) (hat : t.at_ ≤ s.size) (ht : t.at_ = p + 2) (hb : RB B M s t x w) (hp : pTo s t = (true, t')) :
    Calls Tryz.prog 114 #[.pointer (some ⟨B, 0, none⟩), .int .i64 (c : Nat)] w fun e w' => (∃ f a, e = .returned (.tuple #[.func f #[] a, .bool true]) ∧ FnK 0 w' (.func f #[] a) (fun y => .int .u8 (toP s (chOf s p) c y : Nat))) ∧ RB B M s t' x w' ∧ Ex B w w' := by
  have hmf : ∀ (fn : Fn) (first cap : Array Value) (w : World), (Instr.makeFunc fn first cap).run Tryz.prog w = .ok (.func fn first cap) w := fun _ _ _ _ => rfl
  unfold pTo at hp
  have hbx := heap_alloc_new w (.cells #[.int .i64 c] 3)
  have hba := hb.alloc (.cells #[.int .i64 c] 3)
  have HBX : Put (_ ∧ _) := ⟨hbx, hba⟩
  have kp : ∀ {a b : World} {t : T} {x : Junk}, RB B M s t x a → Ex B a b → Kp 0 a b := fun h e => h.kp e.two 0
  have HKP : Put (∀ {a b : World} {t : T} {x : Junk}, RB B M s t x a → Ex B a b → Kp 0 a b) := ⟨fun h e => h.kp e.two 0⟩
  clear hbx kp
  cases g1 : num? s t.at_ 63 0 0 with
  | some k =>
    simp [g1] at hp; subst hp
    have HV : Put (∀ y, toP s (chOf s p) c y = 2 ^ c - 1) := ⟨fun y => toP_any (by rw [← ht]; exact g1) c y⟩
    go_enter Tryz.func114, Tryz.ntmps114
    go_wp2_with fail
    refine (take_yes 63 k hs (by omega) hba g1).mono ?_; rintro e w1 ⟨rfl, hb1, hx1⟩
    have hx1' := (((Ex.refl B w).alloc (.cells #[.int .i64 c] 3)).trans hx1)
    go_wp2
    go_ret2
    refine ⟨⟨_, _, rfl, ⟨152, #[.pointer (some ⟨w.heap.size, 0, none⟩)], rfl, enters_of Tryz.func152 (by kernel_rfl) rfl, fun W hW _ _ y _ => ?_⟩⟩, hb1, hx1'⟩
    have hbx1 := (HKP.out HBX.out.2 hx1).box HBX.out.1
    show Calls _ _ _ _ fun e W' => e = .returned (.int .u8 ((toP s (chOf s p) c y : Nat) : Int)) ∧ _
    rw [HV.out]
    refine (fn84_any w.heap.size c y h1 h4 W (hW.box hbx1)).mono ?_
    rintro e W' ⟨rfl, rfl⟩
    exact ⟨rfl, Below.refl _ _⟩
  | none =>
    have g1' : num? s (p + 2) 63 0 0 = none := by rw [← ht]; exact g1
    cases g2 : pTerm s t with
    | none => simp [g1, g2] at hp
    | some t1 =>
      have l1 := pTerm_lt g2
      have s1 := (pTerm_same g2).1
      cases g3 : num? s t1.at_ 43 0 0 with
      | none =>
        simp [g1, g2, g3] at hp; subst hp
        have HV : Put (∀ y, toP s (chOf s p) c y = 2 ^ ((tmV (tmOf s t.at_) y + 0) % c)) := ⟨fun y => by rw [toP_term g1' ht g2, more0 (by rw [← s1]; exact g3)]⟩
        go_enter Tryz.func114, Tryz.ntmps114
        go_wp2_with fail
        refine (take_no 63 hs hat (by omega) hba g1).mono ?_; rintro e w1 ⟨rfl, hb1, hx1⟩
        go_wp2_with fail
        refine (rterm_yes hs hat hb1 g2).mono ?_; rintro e w2 ⟨⟨f2, a2, rfl, hf2⟩, hb2, hx2⟩
        go_wp2_with fail
        refine (take_no 43 hs l1 (by omega) ((hb2.alloc _).alloc _) g3).mono ?_; rintro e w3 ⟨rfl, hb3, hx3⟩
        have hX := ((((((Ex.refl B w).alloc (.cells #[.int .i64 c] 3)).trans hx1).trans hx2).alloc (.cells #[.func f2 #[] a2] 265)).alloc (.cells #[.int .i64 0] 3)).trans hx3
        have kC : Kp 0 (w.alloc (.cells #[.int .i64 c] 3)) w2 := (HKP.out HBX.out.2 hx1).trans (HKP.out hb1 hx2)
        have kD : Kp 0 ((w2.alloc (.cells #[.func f2 #[] a2] 265)).alloc (.cells #[.int .i64 0] 3)) w3 := HKP.out ((hb2.alloc _).alloc _) hx3
        have kE : Kp 0 w2 w3 := ((Kp.alloc 0 w2 _).trans (Kp.alloc 0 _ _)).trans kD
        have y3 := (kC.trans kE).box HBX.out.1
        have y1 := ((Kp.alloc 0 _ _).trans kD).box (heap_alloc_new w2 (.cells #[.func f2 #[] a2] 265))
        have y2' := heap_alloc_new (w2.alloc (.cells #[.func f2 #[] a2] 265)) (.cells #[.int .i64 0] 3)
        rw [World.size_alloc] at y2'
        have y2 := kD.box y2'
        have HF : Put (_ ∧ _ ∧ _ ∧ _) := ⟨y1, y2, y3, hf2.kp kE⟩
        have HX : Put (Ex B w w3) := ⟨hX⟩
        clear hX kC kD kE y1 y2 y2' y3 hf2 hx1 hx2 hx3 hb1 hb2 hba
        go_wp2
        go_ret2
        refine ⟨⟨_, _, rfl, ⟨154, #[.pointer (some ⟨w2.heap.size, 0, none⟩), .pointer (some ⟨w2.heap.size + 1, 0, none⟩), .pointer (some ⟨w.heap.size, 0, none⟩)], rfl, enters_of Tryz.func154 (by kernel_rfl) rfl, fun W hW h0 hT y hy => ?_⟩⟩, hb3, HX.out⟩
        obtain ⟨y1, y2, y3, hf⟩ := HF.out
        show Calls _ _ _ _ fun e W' => e = .returned (.int .u8 ((toP s (chOf s p) c y : Nat) : Int)) ∧ _
        rw [HV.out]
        exact fn86_any w2.heap.size (w2.heap.size + 1) w.heap.size 0 c y hy h1 h4 (by omega) _ (tmV (tmOf s t.at_)) (tmV_le3 _ _ y) w3 W hW h0 hT hf (hW.box y1) (hW.box y2) (hW.box y3)
      | some k3 =>
        cases g4 : num? s t1.adv.at_ 48 0 3 with
        | none => simp [g1, g2, g3, g4] at hp
        | some kd =>
          simp [g1, g2, g3, g4] at hp; subst hp
          have e2 : t1.adv.at_ = t.at_ + 2 := by show t1.at_ + 1 = _; omega
          have HV : Put (∀ y, toP s (chOf s p) c y = 2 ^ ((tmV (tmOf s t.at_) y + kd) % c)) := ⟨fun y => by rw [toP_term g1' ht g2, more1 (by rw [← s1]; exact g3) (by rw [← e2]; exact g4)]⟩
          have hk3 := (num_le g4).2
          go_enter Tryz.func114, Tryz.ntmps114
          go_wp2_with fail
          refine (take_no 63 hs hat (by omega) hba g1).mono ?_; rintro e w1 ⟨rfl, hb1, hx1⟩
          go_wp2_with fail
          refine (rterm_yes hs hat hb1 g2).mono ?_; rintro e w2 ⟨⟨f2, a2, rfl, hf2⟩, hb2, hx2⟩
          go_wp2_with fail
          have Z := ((hb2.alloc (.cells #[.func f2 #[] a2] 265)).alloc (.cells #[.int .i64 0] 3))
          refine (take_yes 43 k3 hs (by omega) Z g3).mono ?_; rintro e w3 ⟨rfl, hb3, hx3⟩
          go_wp2_with fail
          refine (digit_yes 0 kd hs (by omega) hb3 g4).mono ?_; rintro e w4 ⟨rfl, hb4, hx4⟩
          have hx := hx3.trans hx4
          have hBlt := hb2.lt
          have hMlt := hb2.ltM
          have hblk : w4.heap[w2.heap.size + 1]? = some (.cells #[.int .i64 0] 3 (0, 0)) := by
            rw [hx.block _ (by simp) (by omega)]
            have := heap_alloc_new (w2.alloc (.cells #[.func f2 #[] a2] 265)) (.cells #[.int .i64 0] 3)
            simpa using this
          have k1 := cell_of_one hblk
          have k2 := free_of_one hblk
          have hblt := lt_of_block hblk
          have hle : w.heap.size < w2.heap.size := Nat.lt_of_lt_of_le (by simp) (Nat.le_trans hx1.size hx2.size)
          have HB4 : Put (RB B M s t1.adv.adv x w4) := ⟨hb4⟩
          have HX : Put (Ex B w w4) := ⟨((((((Ex.refl B w).alloc _).trans hx1).trans hx2).alloc _).alloc _).trans hx⟩
          have kC : Kp 0 (w.alloc (.cells #[.int .i64 c] 3)) w2 := (HKP.out HBX.out.2 hx1).trans (HKP.out hb1 hx2)
          have kD : Kp 0 ((w2.alloc (.cells #[.func f2 #[] a2] 265)).alloc (.cells #[.int .i64 0] 3)) w4 := HKP.out Z hx
          have kE : Kp 0 w2 w4 := ((Kp.alloc 0 w2 _).trans (Kp.alloc 0 _ _)).trans kD
          have y3 := (kC.trans kE).box HBX.out.1
          have y1 := ((Kp.alloc 0 _ _).trans kD).box (heap_alloc_new w2 (.cells #[.func f2 #[] a2] 265))
          have y2 := heap_setCell_same w4 (w2.heap.size + 1) 0 _ 3 (.int .i64 kd) hblk
          have y1' := (heap_setCell_other w4 ⟨w2.heap.size + 1, 0, none⟩ w2.heap.size (.int .i64 kd) (by show w2.heap.size ≠ w2.heap.size + 1; omega)).trans y1
          have y3' := (heap_setCell_other w4 ⟨w2.heap.size + 1, 0, none⟩ w.heap.size (.int .i64 kd) (by show w.heap.size ≠ w2.heap.size + 1; omega)).trans y3
          obtain ⟨fn2, cap2, e2', en2, hc2⟩ := hf2
          -- the term's own box lies below: the store to 'more' leaves it
          have kS : ∀ W, Kp 0 (w4.setCell ⟨w2.heap.size + 1, 0, none⟩ (.int .i64 kd)) W → Kp 0 w2 W := fun W hW => by
            refine ⟨Nat.le_trans kE.size (by simpa using hW.size), fun k cs ty fz hk gc g1 g2 => ?_⟩
            have hk4 := (kE.keep k cs ty fz hk gc g1 g2).trans hk
            have hlt := lt_of_block hk
            have hk5 := (heap_setCell_other w4 ⟨w2.heap.size + 1, 0, none⟩ k (.int .i64 kd) (by show k ≠ w2.heap.size + 1; omega)).trans hk4
            exact ((hW.keep k cs ty fz hk5 gc g1 g2).trans hk5).trans hk.symm
          have HF : Put (_ ∧ _ ∧ _ ∧ FnK 0 (w4.setCell ⟨w2.heap.size + 1, 0, none⟩ (.int .i64 kd)) (.func f2 #[] a2) (fun x => .int .i64 (tmV (tmOf s t.at_) x : Nat))) := ⟨y1', y2, y3', fn2, cap2, e2', en2, fun W hW => hc2 W (kS W hW)⟩
          clear hb1 hb2 hb3 hb4 hx1 hx2 hx3 hx4 hx hblk Z g1' g2 g3 g4 kC kD kE kS y1 y2 y3 y1' y3' hc2 en2 e2' hba
          go_wp2
          go_ret2
          refine ⟨⟨_, _, rfl, ⟨154, #[.pointer (some ⟨w2.heap.size, 0, none⟩), .pointer (some ⟨w2.heap.size + 1, 0, none⟩), .pointer (some ⟨w.heap.size, 0, none⟩)], rfl, enters_of Tryz.func154 (by kernel_rfl) rfl, fun W hW h0 hT y hy => ?_⟩⟩, HB4.out.set_other (by show w2.heap.size + 1 ≠ B; omega) (by show w2.heap.size + 1 ≠ M; omega) _, HX.out.setCell (.inr (by show w.heap.size ≤ w2.heap.size + 1; omega)) _⟩
          obtain ⟨y1, y2, y3, hf⟩ := HF.out
          show Calls _ _ _ _ fun e W' => e = .returned (.int .u8 ((toP s (chOf s p) c y : Nat) : Int)) ∧ _
          rw [HV.out]
          exact fn86_any w2.heap.size (w2.heap.size + 1) w.heap.size kd c y hy h1 h4 hk3 _ (tmV (tmOf s t.at_)) (tmV_le3 _ _ y) _ W hW h0 hT hf (hW.box y1) (hW.box y2) (hW.box y3)
def pToNil (s : ByteArray) (t : T) : Bool := (num? s t.at_ 63 0 0).isNone && (pTerm s t).isNone
theorem to_nil {t' : T} (c : Int) (hs : s.size ≤ 120) (hat : t.at_ ≤ s.size) (hb : RB B M s t x w) (hp : pTo s t = (false, t')) (hz : pToNil s t = true) :
    Calls Tryz.prog 114 #[.pointer (some ⟨B, 0, none⟩), .int .i64 c] w fun e w' => e = .returned (.tuple #[.nilFunc, .bool false]) ∧ RB B M s t' x w' ∧ Ex B w w' := by
  unfold pTo at hp
  cases g1 : num? s t.at_ 63 0 0 with
  | some k => simp [pToNil, g1] at hz
  | none =>
    cases g2 : pTerm s t with
    | some k => simp [pToNil, g2] at hz
    | none =>
      simp [g1, g2] at hp; subst hp
      go_enter Tryz.func114, Tryz.ntmps114
      go_wp2_with fail
      refine (take_no 63 hs hat (by omega) (hb.alloc _) g1).mono ?_; rintro e w1 ⟨rfl, hb1, hx1⟩
      go_wp2_with fail
      refine (rterm_no hs hat hb1 g2).mono ?_; rintro e w2 ⟨rfl, hb2, hx2⟩
      go_wp2
      go_ret2
      exact ⟨rfl, hb2.alloc _, ((((Ex.refl B w).alloc _).trans hx1).trans hx2).alloc _⟩
set_option maxRecDepth 100000 in
set_option maxHeartbeats 1600000 in
theorem to_func {t' : T} (c : Int) (hs : s.size ≤ 120) (hat : t.at_ ≤ s.size) (hb : RB B M s t x w) (hp : pTo s t = (false, t')) (hz : pToNil s t = false) :
    Calls Tryz.prog 114 #[.pointer (some ⟨B, 0, none⟩), .int .i64 c] w fun e w' => (∃ f a, e = .returned (.tuple #[.func f #[] a, .bool false])) ∧ RB B M s t' x w' ∧ Ex B w w' := by
  have hmf : ∀ (fn : Fn) (first cap : Array Value) (w : World), (Instr.makeFunc fn first cap).run Tryz.prog w = .ok (.func fn first cap) w := fun _ _ _ _ => rfl
  unfold pTo at hp
  cases g1 : num? s t.at_ 63 0 0 with
  | some k => simp [g1] at hp
  | none =>
    cases g2 : pTerm s t with
    | none => simp [pToNil, g1, g2] at hz
    | some t1 =>
      have l1 := pTerm_lt g2
      cases g3 : num? s t1.at_ 43 0 0 with
      | none => simp [g1, g2, g3] at hp
      | some k3 =>
        have l3 : t1.adv.at_ ≤ s.size := num_lt g3
        cases g4 : num? s t1.adv.at_ 48 0 3 with
        | some kd => simp [g1, g2, g3, g4] at hp
        | none =>
          simp [g1, g2, g3, g4] at hp; subst hp
          go_enter Tryz.func114, Tryz.ntmps114
          go_wp2_with fail
          refine (take_no 63 hs hat (by omega) (hb.alloc _) g1).mono ?_; rintro e w1 ⟨rfl, hb1, hx1⟩
          go_wp2_with fail
          refine (rterm_yes hs hat hb1 g2).mono ?_; rintro e w2 ⟨⟨f2, a2, rfl, -⟩, hb2, hx2⟩
          go_wp2_with fail
          have Z := ((hb2.alloc (.cells #[.func f2 #[] a2] 265)).alloc (.cells #[.int .i64 0] 3))
          refine (take_yes 43 k3 hs (by omega) Z g3).mono ?_; rintro e w3 ⟨rfl, hb3, hx3⟩
          go_wp2_with fail
          refine (digit_no 0 hs l3 (by omega) hb3 g4).mono ?_; rintro e w4 ⟨rfl, hb4, hx4⟩
          have hx := hx3.trans hx4
          have hBlt := hb2.lt
          have hMlt := hb2.ltM
          have hblk : w4.heap[w2.heap.size + 1]? = some (.cells #[.int .i64 0] 3 (0, 0)) := by
            rw [hx.block _ (by simp) (by omega)]
            have := heap_alloc_new (w2.alloc (.cells #[.func f2 #[] a2] 265)) (.cells #[.int .i64 0] 3)
            simpa using this
          have k1 := cell_of_one hblk
          have k2 := free_of_one hblk
          have hblt := lt_of_block hblk
          have HB4 : Put (RB B M s t1.adv x w4) := ⟨hb4⟩
          have HX : Put (Ex B w w4) := ⟨((((((Ex.refl B w).alloc _).trans hx1).trans hx2).alloc _).alloc _).trans hx⟩
          have hle : w.heap.size ≤ w2.heap.size := ((((Ex.refl B w).alloc (.cells #[.int .i64 c] 3)).trans hx1).trans hx2).size
          clear hb1 hb2 hb3 hb4 hx1 hx2 hx3 hx4 hx hblk Z g1 g2 g3 g4
          go_wp2
          go_ret2
          exact ⟨⟨_, _, rfl⟩, HB4.out.set_other (by show w2.heap.size + 1 ≠ B; omega) (by show w2.heap.size + 1 ≠ M; omega) _, HX.out.setCell (.inr (by show w.heap.size ≤ w2.heap.size + 1; omega)) _⟩
end
end Go.Proofs.YtgoebckimmofoaaGreatDoor
