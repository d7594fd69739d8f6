import Derived.Lib.TrailingZeros
import Derived.Test.YtgoebckimmofoaaGreatDoorRows
import Derived.WalkKit
import Derived.WalkSpells
import Derived.WalkLawsBesides
import Derived.Deep.QuietTactic
import Derived.BigQuiet
import Derived.RegionTactic
import Derived.Scope
import Derived.WalkMore
import Derived.Deep.LoopGhost
import Derived.Deep.AppendLies
import Derived.Deep.RegionHeld3
import Derived.Laws.Bits64b
import Derived.Laws.IdiomStrings
import Derived.Maps.AppendAt
import Derived.RangeFuncBox
import Derived.Deep.RegionLaw
import Derived.Deep.RegionHeld
import Derived.RangeFuncNested
import Derived.RangeFuncBound
import Derived.RangeFuncCalls
import Derived.RangeFuncLeaves
import Derived.Shelf.Abstract
import Derived.Shelf.RegionOpen
import Derived.OwnWalkIn
import Derived.TacticsInMore
import Derived.LoopNIn
import Derived.LoopIn
import Derived.Stop.RegionWithIn
import Derived.MapKept
import Derived.Lib.Bytealg
import Derived.Lib.IndexLaws
import Derived.Test.YtgoebckimmofoaaGreatDoorB1
import Derived.Test.YtgoebckimmofoaaGreatDoorB4
import Derived.Test.YtgoebckimmofoaaGreatDoorB5
import Derived.Test.YtgoebckimmofoaaGreatDoorB7
import Derived.Test.YtgoebckimmofoaaGreatDoorB9
import Derived.Test.YtgoebckimmofoaaGreatDoorB10
import Derived.Test.YtgoebckimmofoaaGreatDoorB11
import Derived.Test.YtgoebckimmofoaaGreatDoorB12
import Derived.Test.YtgoebckimmofoaaGreatDoorB21
import Derived.Laws.EntriesVeiled
/- What the signs make. Our own text. -/
namespace Go.Proofs.YtgoebckimmofoaaGreatDoor
open Go.RowKit Go.Lib

/-- The reader, and what its parts mean. -/
def FP (B M : Nat) (s : ByteArray) (t : T) (wh : Value) (opn deep : Nat) (ps : List Pt) (wvs : List WV) (aw : Option Addr) (cw : Nat) (w : World) : Prop :=
  ∃ (pvs : List PtV) (ap : Option Addr) (cp : Nat), FRv B M s t wh opn deep pvs wvs ⟨ap, cp, aw, cw⟩ w ∧ All2 (PartOk w) pvs ps
def MakePost (B M : Nat) (s : ByteArray) (t : T) (wh : Value) (opn deep : Nat) (r : G × List Pt) (wvs : List WV) (aw : Option Addr) (cw : Nat) (w : World) (e : Ending) (w' : World) : Prop :=
  ∃ (f : Nat) (a : Array Value), e = .returned (.func (.func f) #[] a) ∧ FnP w' (.func (.func f) #[] a) r.1 ∧ FP B M s t wh opn deep r.2 wvs aw cw w' ∧ Fr B w w'
section
variable {B M : Nat} {s : ByteArray} {t : T} {wh : Value} {opn deep : Nat} {ps : List Pt} {wvs : List WV} {aw : Option Addr} {cw : Nat} {w w' : World} {fl fr : Nat} {cl cr : Array Value} {f g : G}
theorem FP.below (h : FP B M s t wh opn deep ps wvs aw cw w) (hb : Below w.heap.size w w') : FP B M s t wh opn deep ps wvs aw cw w' := by
  obtain ⟨pvs, ap, cp, h1, h2⟩ := h
  exact ⟨pvs, ap, cp, h1.below hb, h2.mono (fun _ _ h => h.kp (KP.of_below hb))⟩
theorem FP.lt (h : FP B M s t wh opn deep ps wvs aw cw w) : B < w.heap.size := by
  obtain ⟨pvs, ap, cp, h1, h2⟩ := h
  exact h1.lt
theorem not_any (lv : Value) (hg : FnP w (.func (.func fr) #[] cr) g) (h : FP B M s t wh opn deep ps wvs aw cw w) :
    Calls Tryz.prog 194 #[.pointer (some ⟨B, 5, none⟩), lv, .func (.func fr) #[] cr] w (MakePost B M s t wh opn deep (fun x b => !g x b, ps) wvs aw cw w) := by
  have hmf : ∀ (fn : Fn) (first cap : Array Value) (w : World), (Instr.makeFunc fn first cap).run Tryz.prog w = .ok (.func fn first cap) w := fun _ _ _ _ => rfl
  have HH : Put (_ ∧ _) := ⟨hg, h⟩
  clear hg h
  go_enter Tryz.func194, Tryz.ntmps194
  go_wp2
  go_ret
  have hb : Below w.heap.size w (w.alloc (.cells #[.func (.func fr) #[] cr] 78)) := (Below.refl _ w).alloc (Nat.le_refl _) _
  refine ⟨_, _, rfl, ⟨_, _, rfl, enters_of Tryz.func210 (by kernel_rfl) rfl, fun W hW h0 hT x b hx hb => ?_⟩, HH.out.2.below hb, Fr.of_below hb (Nat.le_of_lt HH.out.2.lt)⟩
  exact not1_any w.heap.size x b hx hb W ((KP.alloc _ _).trans hW) h0 hT HH.out.1 (hW.box (heap_alloc_new w (.cells #[.func (.func fr) #[] cr] 78)))
theorem and_any (hf : FnP w (.func (.func fl) #[] cl) f) (hg : FnP w (.func (.func fr) #[] cr) g) (h : FP B M s t wh opn deep ps wvs aw cw w) :
    Calls Tryz.prog 195 #[.pointer (some ⟨B, 5, none⟩), .func (.func fl) #[] cl, .func (.func fr) #[] cr] w (MakePost B M s t wh opn deep (fun x b => f x b && g x b, ps) wvs aw cw w) := by
  have hmf : ∀ (fn : Fn) (first cap : Array Value) (w : World), (Instr.makeFunc fn first cap).run Tryz.prog w = .ok (.func fn first cap) w := fun _ _ _ _ => rfl
  have HH : Put (_ ∧ _ ∧ _) := ⟨hf, hg, h⟩
  clear hf hg h
  go_enter Tryz.func195, Tryz.ntmps195
  go_wp2
  go_ret
  have hb : Below w.heap.size w ((w.alloc (.cells #[.func (.func fl) #[] cl] 78)).alloc (.cells #[.func (.func fr) #[] cr] 78)) := ((Below.refl _ w).alloc (Nat.le_refl _) _).alloc (by simp) _
  refine ⟨_, _, rfl, ⟨_, _, rfl, enters_of Tryz.func211 (by kernel_rfl) rfl, fun W hW h0 hT x b hx hb => ?_⟩, HH.out.2.2.below hb, Fr.of_below hb (Nat.le_of_lt HH.out.2.2.lt)⟩
  have b1 := ((KP.alloc _ (.cells #[.func (.func fr) #[] cr] 78)).trans hW).box (heap_alloc_new w (.cells #[.func (.func fl) #[] cl] 78))
  have b2 := hW.box (heap_alloc_new (w.alloc (.cells #[.func (.func fl) #[] cl] 78)) (.cells #[.func (.func fr) #[] cr] 78))
  rw [World.size_alloc] at b2
  exact and1_any w.heap.size (w.heap.size + 1) x b hx hb W (((KP.alloc _ _).trans (KP.alloc _ _)).trans hW) h0 hT HH.out.1 HH.out.2.1 b1 b2
theorem or_any (hf : FnP w (.func (.func fl) #[] cl) f) (hg : FnP w (.func (.func fr) #[] cr) g) (h : FP B M s t wh opn deep ps wvs aw cw w) :
    Calls Tryz.prog 196 #[.pointer (some ⟨B, 5, none⟩), .func (.func fl) #[] cl, .func (.func fr) #[] cr] w (MakePost B M s t wh opn deep (fun x b => f x b || g x b, ps) wvs aw cw w) := by
  have hmf : ∀ (fn : Fn) (first cap : Array Value) (w : World), (Instr.makeFunc fn first cap).run Tryz.prog w = .ok (.func fn first cap) w := fun _ _ _ _ => rfl
  have HH : Put (_ ∧ _ ∧ _) := ⟨hf, hg, h⟩
  clear hf hg h
  go_enter Tryz.func196, Tryz.ntmps196
  go_wp2
  go_ret
  have hb : Below w.heap.size w ((w.alloc (.cells #[.func (.func fl) #[] cl] 78)).alloc (.cells #[.func (.func fr) #[] cr] 78)) := ((Below.refl _ w).alloc (Nat.le_refl _) _).alloc (by simp) _
  refine ⟨_, _, rfl, ⟨_, _, rfl, enters_of Tryz.func212 (by kernel_rfl) rfl, fun W hW h0 hT x b hx hb => ?_⟩, HH.out.2.2.below hb, Fr.of_below hb (Nat.le_of_lt HH.out.2.2.lt)⟩
  have b1 := ((KP.alloc _ (.cells #[.func (.func fr) #[] cr] 78)).trans hW).box (heap_alloc_new w (.cells #[.func (.func fl) #[] cl] 78))
  have b2 := hW.box (heap_alloc_new (w.alloc (.cells #[.func (.func fl) #[] cl] 78)) (.cells #[.func (.func fr) #[] cr] 78))
  rw [World.size_alloc] at b2
  exact or1_any w.heap.size (w.heap.size + 1) x b hx hb W (((KP.alloc _ _).trans (KP.alloc _ _)).trans hW) h0 hT HH.out.1 HH.out.2.1 b1 b2
theorem keep_fn {b n : Nat} {w' : World} (hn : n < 64) (hb : w'.heap[b]? = some (.cells #[.int .i64 (n : Nat)] 3 (0, 0))) : FnP w' (.func (.func 218) #[] #[.pointer (some ⟨b, 0, none⟩)]) (fun _ c => c.testBit n) :=
  ⟨_, _, rfl, enters_of Tryz.func218 (by kernel_rfl) rfl, fun W hW _ _ x c _ hc => keep1_any b n x c hn hc W (hW.box hb)⟩
set_option maxRecDepth 100000 in
set_option maxHeartbeats 1600000 in
theorem next_mk (lv : Value) (hl : ps.length < 60) (hg : FnP w (.func (.func fr) #[] cr) g) (h : FP B M s t wh opn deep ps wvs aw cw w) :
    Calls Tryz.prog 197 #[.pointer (some ⟨B, 5, none⟩), lv, .func (.func fr) #[] cr] w (MakePost B M s t wh opn deep (fun _ b => b.testBit ps.length, ps ++ [⟨fun _ _ x' b' => g x' b', false, fun _ _ => true⟩]) wvs aw cw w) := by
  have hmf : ∀ (fn : Fn) (first cap : Array Value) (w : World), (Instr.makeFunc fn first cap).run Tryz.prog w = .ok (.func fn first cap) w := fun _ _ _ _ => rfl
  have hb : Below w.heap.size w (w.alloc (.cells #[.func (.func fr) #[] cr] 78)) := (Below.refl _ w).alloc (Nat.le_refl _) _
  obtain ⟨pvs, ap, cp, h1, h2⟩ := h
  have hpl := h2.length
  have HK : Put (_) := ⟨keep_any (by omega) (h1.below hb) ⟨214, #[.pointer (some ⟨w.heap.size, 0, none⟩)], false, 172, #[]⟩⟩
  have HH : Put (_ ∧ _ ∧ _) := ⟨hg, h1, h2⟩
  have HB : Put (_) := ⟨hb⟩
  clear hg h1 h2 hb
  go_enter Tryz.func197, Tryz.ntmps197
  go_wp2_with fail
  refine HK.out.mono ?_
  rintro e w2 ⟨b, ap', cp', rfl, hbge, hbx, hfr, hF, _⟩
  have FIN : Put (MakePost B M s t wh opn deep (fun _ b => b.testBit ps.length, ps ++ [⟨fun _ _ x' b' => g x' b', false, fun _ _ => true⟩]) wvs aw cw w (.returned (.func (.func 218) #[] #[.pointer (some ⟨b, 0, none⟩)])) w2) := ⟨by
    have hk : KP w w2 := (KP.of_below HB.out).trans hF.k
    have bx := hF.k.box (heap_alloc_new w (.cells #[.func (.func fr) #[] cr] 78))
    refine ⟨_, _, rfl, ?_, ⟨_, ap', cp', hfr, All2.snoc (R := PartOk w2) ⟨?_, rfl⟩ (HH.out.2.2.mono (fun _ _ h => h.kp hk))⟩, (Fr.of_below HB.out (Nat.le_of_lt HH.out.2.1.lt)).trans hF⟩
    · rw [hpl] at hbx; exact keep_fn (by omega) hbx
    · refine ⟨_, _, rfl, enters_of Tryz.func214 (by kernel_rfl) rfl, fun W hW h0 hT x b x' b' _ _ hx' hb' => ?_⟩
      exact next1_any w.heap.size x' b' x b hx' hb' W (hk.trans hW) h0 hT HH.out.1 (hW.box bx)⟩
  clear hbx hfr hF HK
  go_wp2
  go_ret
  exact FIN.out
end
end Go.Proofs.YtgoebckimmofoaaGreatDoor

/- What is put off. Our own text. -/
namespace Go.Proofs.YtgoebckimmofoaaGreatDoor
open Go.RowKit Go.Lib
section
variable {w : World} {fl fr fi : Nat} {cl cr ci : Array Value} {f g q : G}
set_option maxRecDepth 100000 in
set_option maxHeartbeats 1600000 in
theorem put1_any (bg bf bi x b x' b' : Nat) (hx : x < 64) (hb : b < 256) (hx' : x' < 64) (hb' : b' < 256) (W : World) (hW : KP w W) (h0 : 0 < W.heap.size) (hT : Tab W) (hf : FnP w (.func (.func fl) #[] cl) f) (hg : FnP w (.func (.func fr) #[] cr) g) (hq : FnP w (.func (.func fi) #[] ci) q)
    (b1 : W.heap[bg]? = some (.cells #[.func (.func fr) #[] cr] 78 (0, 0))) (b2 : W.heap[bf]? = some (.cells #[.func (.func fl) #[] cl] 78 (0, 0))) (b3 : W.heap[bi]? = some (.cells #[.func (.func fi) #[] ci] 78 (0, 0))) :
    Calls Tryz.prog 220 #[.agg #[.int .u8 (x : Nat), .int .u8 (b : Nat)], .agg #[.int .u8 (x' : Nat), .int .u8 (b' : Nat)], .pointer (some ⟨bg, 0, none⟩), .pointer (some ⟨bf, 0, none⟩), .pointer (some ⟨bi, 0, none⟩)] W fun e W' => e = .returned (.bool (g x b || (f x b && q x' b'))) ∧ Below W.heap.size W W' := by
  have c1 := box_cell b1
  have l1 := lt_of_block b1
  have l2 := lt_of_block b2
  have l3 := lt_of_block b3
  have hA := (Below.heap_alloc (W.alloc (.cells #[.int .u8 (x : Nat), .int .u8 (b : Nat)] 157)) (.cells #[.int .u8 (x' : Nat), .int .u8 (b' : Nat)] 157) W.heap.size (by simp)).trans (heap_alloc_new W (.cells #[.int .u8 (x : Nat), .int .u8 (b : Nat)] 157))
  have hN := heap_alloc_new (W.alloc (.cells #[.int .u8 (x : Nat), .int .u8 (b : Nat)] 157)) (.cells #[.int .u8 (x' : Nat), .int .u8 (b' : Nat)] 157)
  rw [World.size_alloc] at hN
  have HA : Put (Below W.heap.size W ((W.alloc (.cells #[.int .u8 (x : Nat), .int .u8 (b : Nat)] 157)).alloc (.cells #[.int .u8 (x' : Nat), .int .u8 (b' : Nat)] 157))) := ⟨((Below.refl _ _).alloc (Nat.le_refl _) _).alloc (by simp) _⟩
  have HG : Put (_) := ⟨hg.at hW h0 hT hx hb _ HA.out⟩
  have HF : Put (_) := ⟨hf.at hW h0 hT hx hb⟩
  have HQ : Put (_) := ⟨hq.at hW h0 hT hx' hb'⟩
  obtain ⟨_, _, e, en⟩ := hf.form
  obtain ⟨rfl, rfl⟩ : _ ∧ _ := by simpa using e
  obtain ⟨_, _, e', en'⟩ := hg.form
  obtain ⟨rfl, rfl⟩ : _ ∧ _ := by simpa using e'
  obtain ⟨_, _, e'', en''⟩ := hq.form
  obtain ⟨rfl, rfl⟩ : _ ∧ _ := by simpa using e''
  have BX : Put (_ ∧ _ ∧ _ ∧ _) := ⟨b2, b3, hA, hN⟩
  clear hW hT hf hg hq b1 b2 b3 e e' e'' hA hN
  generalize f x b = r at *
  generalize g x b = r' at *
  generalize q x' b' = r'' at *
  cases r' with
  | true =>
    go_enter Tryz.func220, Tryz.ntmps220
    go_wp2_with fail
    refine HG.out.mono ?_
    rintro e w1 ⟨rfl, hb1⟩
    go_wp2
    go_ret
    exact ⟨rfl, HA.out.trans (hb1.mono HA.out.size)⟩
  | false =>
    cases r with
    | false =>
      go_enter Tryz.func220, Tryz.ntmps220
      go_wp2_with fail
      refine HG.out.mono ?_
      rintro e w1 ⟨rfl, hb1⟩
      have hB := HA.out.trans (hb1.mono HA.out.size)
      have c2 := box_cell ((hB.block _ l2).trans BX.out.1)
      have p1 := (hb1.block _ (by simp; omega)).trans BX.out.2.2.1
      have q0 := two_cell0 p1
      have q1 := two_cell1 p1
      have HB : Put (_) := ⟨hB⟩
      clear hb1 hB p1
      go_wp2_with fail
      refine (HF.out w1 HB.out).mono ?_
      rintro e w2 ⟨rfl, hb2⟩
      go_wp2
      go_ret
      exact ⟨rfl, HB.out.trans (hb2.mono HB.out.size)⟩
    | true =>
      go_enter Tryz.func220, Tryz.ntmps220
      go_wp2_with fail
      refine HG.out.mono ?_
      rintro e w1 ⟨rfl, hb1⟩
      have hB := HA.out.trans (hb1.mono HA.out.size)
      have c2 := box_cell ((hB.block _ l2).trans BX.out.1)
      have p1 := (hb1.block _ (by simp; omega)).trans BX.out.2.2.1
      have n1 := (hb1.block _ (by simp)).trans BX.out.2.2.2
      have q0 := two_cell0 p1
      have q1 := two_cell1 p1
      have HB : Put (_) := ⟨hB⟩
      have HN : Put (_) := ⟨n1⟩
      clear hb1 hB p1 n1
      go_wp2_with fail
      refine (HF.out w1 HB.out).mono ?_
      rintro e w2 ⟨rfl, hb2⟩
      have hB2 := HB.out.trans (hb2.mono HB.out.size)
      have c3 := box_cell ((hB2.block _ l3).trans BX.out.2.1)
      have p2 := (hb2.block _ (lt_of_block HN.out)).trans HN.out
      have u0 := two_cell0 p2
      have u1 := two_cell1 p2
      have HB2 : Put (_) := ⟨hB2⟩
      clear hb2 hB2 p2 c2 q0 q1
      go_wp2_with fail
      refine (HQ.out w2 HB2.out).mono ?_
      rintro e w3 ⟨rfl, hb3⟩
      go_wp2
      go_ret
      exact ⟨rfl, HB2.out.trans (hb3.mono HB2.out.size)⟩
end
section
variable {B M : Nat} {s : ByteArray} {t : T} {wh : Value} {opn deep : Nat} {ps : List Pt} {wvs : List WV} {aw : Option Addr} {cw : Nat} {w : World} {fl fr : Nat} {cl cr : Array Value} {f g : G}
/-- The four boxes. -/
def w4 (w : World) (fl : Nat) (cl : Array Value) (fr : Nat) (cr : Array Value) (e : Bool) : World :=
  (((w.alloc (.cells #[.func (.func fl) #[] cl] 78)).alloc (.cells #[.func (.func fr) #[] cr] 78)).alloc (.cells #[.bool e] 4)).alloc (.cells #[.nilFunc] 78)
theorem w4_facts (w : World) (fl : Nat) (cl : Array Value) (fr : Nat) (cr : Array Value) (e : Bool) : Below w.heap.size w (w4 w fl cl fr cr e) ∧ (w4 w fl cl fr cr e).heap[w.heap.size]? = some (.cells #[.func (.func fl) #[] cl] 78 (0, 0)) ∧ (w4 w fl cl fr cr e).heap[w.heap.size + 1]? = some (.cells #[.func (.func fr) #[] cr] 78 (0, 0)) ∧ (w4 w fl cl fr cr e).heap[w.heap.size + 1 + 1 + 1]? = some (.cells #[.nilFunc] 78 (0, 0)) ∧ (w4 w fl cl fr cr e).heap.size = w.heap.size + 4 := by
  have h1 := heap_alloc_new w (.cells #[.func (.func fl) #[] cl] 78)
  have h2 := heap_alloc_new (w.alloc (.cells #[.func (.func fl) #[] cl] 78)) (.cells #[.func (.func fr) #[] cr] 78)
  have h4 := heap_alloc_new ((((w.alloc (.cells #[.func (.func fl) #[] cl] 78)).alloc (.cells #[.func (.func fr) #[] cr] 78)).alloc (.cells #[.bool e] 4))) (.cells #[.nilFunc] 78)
  simp only [World.size_alloc] at h2 h4
  unfold w4
  refine ⟨((((Below.refl _ w).alloc (Nat.le_refl _) _).alloc (by simp) _).alloc (by simp; omega) _).alloc (by simp; omega) _, ?_, ?_, h4, by simp⟩
  · rw [Below.heap_alloc _ _ _ (by first | (simp; done) | (simp; omega)), Below.heap_alloc _ _ _ (by first | (simp; done) | (simp; omega)), Below.heap_alloc _ _ _ (by simp)]; exact h1
  · rw [Below.heap_alloc _ _ _ (by first | (simp; done) | (simp; omega)), Below.heap_alloc _ _ _ (by first | (simp; done) | (simp; omega))]; exact h2
set_option maxRecDepth 100000 in
set_option maxHeartbeats 1600000 in
theorem putOff_any (e : Bool) (hl : ps.length < 60) (hf : FnP w (.func (.func fl) #[] cl) f) (hg : FnP w (.func (.func fr) #[] cr) g) (h : FP B M s t wh opn deep ps wvs aw cw w) :
    Calls Tryz.prog 216 #[.pointer (some ⟨B, 5, none⟩), .func (.func fl) #[] cl, .func (.func fr) #[] cr, .bool e] w (MakePost B M s t wh opn deep (putOff f g e ps) wvs aw cw w) := by
  have hmf : ∀ (fn : Fn) (first cap : Array Value) (w : World), (Instr.makeFunc fn first cap).run Tryz.prog w = .ok (.func fn first cap) w := fun _ _ _ _ => rfl
  obtain ⟨hb4, x1, x2, x4, z4⟩ := w4_facts w fl cl fr cr e
  obtain ⟨pvs, ap, cp, h1, h2⟩ := h
  have hpl := h2.length
  have hlt := h1.lt
  have HK : Put (_) := ⟨keep_any (by omega) (h1.below hb4) ⟨220, #[.pointer (some ⟨w.heap.size + 1, 0, none⟩), .pointer (some ⟨w.heap.size, 0, none⟩), .pointer (some ⟨w.heap.size + 1 + 1 + 1, 0, none⟩)], e, 221, #[.pointer (some ⟨w.heap.size + 1 + 1 + 1, 0, none⟩), .pointer (some ⟨w.heap.size + 1 + 1, 0, none⟩), .pointer (some ⟨w.heap.size + 1, 0, none⟩), .pointer (some ⟨w.heap.size, 0, none⟩)]⟩⟩
  have HH : Put (_ ∧ _ ∧ _ ∧ _) := ⟨hf, hg, h1, h2⟩
  have HB : Put (_ ∧ _ ∧ _ ∧ _ ∧ _) := ⟨hb4, x1, x2, x4, z4⟩
  unfold w4 at HK
  clear hf hg h1 h2 hb4 x1 x2 x4
  go_enter Tryz.func216, Tryz.ntmps216
  go_wp2_with fail
  refine HK.out.mono ?_
  rintro e' w5 ⟨b, ap', cp', rfl, hbge, hbx, hfr, hF, hoth⟩
  have hrow : ∀ k, (Value.slice ap pvs.length cp).ownBlock = some k → k < w.heap.size := fun k hk => (HH.out.2.2.1.p.lt k hk).2
  have hbi : w5.heap[w.heap.size + 1 + 1 + 1]? = some (.cells #[.nilFunc] 78 (0, 0)) :=
    (hoth (w.heap.size + 1 + 1 + 1) (Nat.lt_of_lt_of_eq (by omega) z4.symm) (by omega) (fun e => by have := hrow _ e; omega)).trans HB.out.2.2.2.1
  have ci := box_cell hbi
  have fi : w5.frozen? ⟨w.heap.size + 1 + 1 + 1, 0, none⟩ = false := by simp [World.frozen?, hbi]
  have li := lt_of_block hbi
  have FIN : Put (MakePost B M s t wh opn deep (putOff f g e ps) wvs aw cw w (.returned (.func (.func 218) #[] #[.pointer (some ⟨b, 0, none⟩)])) (w5.setCell ⟨w.heap.size + 1 + 1 + 1, 0, none⟩ (.func (.func 218) #[] #[.pointer (some ⟨b, 0, none⟩)]))) := ⟨by
    have hfill : KP w5 (w5.setCell ⟨w.heap.size + 1 + 1 + 1, 0, none⟩ (.func (.func 218) #[] #[.pointer (some ⟨b, 0, none⟩)])) := KP.fill _ hbi
    have hk5 : KP w w5 := (KP.of_below HB.out.1).trans hF.k
    have hk6 := hk5.trans hfill
    have y1 := (hF.k.trans hfill).box HB.out.2.1
    have y2 := (hF.k.trans hfill).box HB.out.2.2.1
    have y3 : (w5.setCell ⟨w.heap.size + 1 + 1 + 1, 0, none⟩ (.func (.func 218) #[] #[.pointer (some ⟨b, 0, none⟩)])).heap[w.heap.size + 1 + 1 + 1]? = some (.cells #[.func (.func 218) #[] #[.pointer (some ⟨b, 0, none⟩)]] 78 (0, 0)) := heap_setCell_same w5 _ 0 #[.nilFunc] 78 _ hbi
    have yb := hfill.box hbx
    rw [hpl] at yb
    have kf := keep_fn (by omega) yb
    have hge : w.heap.size ≤ w.heap.size + 1 + 1 + 1 := by omega
    refine ⟨_, _, rfl, kf, ⟨_, ap', cp', ⟨hfr.g.set_other (by show w.heap.size + 1 + 1 + 1 ≠ B; omega) (by show w.heap.size + 1 + 1 + 1 ≠ M; have := hfr.g.lo; omega) _, ?_, ?_⟩, All2.snoc (R := PartOk _) ⟨?_, rfl⟩ (HH.out.2.2.2.mono (fun _ _ h => h.kp hk6))⟩, ⟨(HB.out.1.mono (Nat.le_of_lt hlt)).trans (hF.b.setCell (by show B ≤ w.heap.size + 1 + 1 + 1; omega) _), hk6⟩⟩
    · exact ownsRow_setCell_other hfr.p (a := ⟨w.heap.size + 1 + 1 + 1, 0, none⟩) (ne_block_of_type hfr.p hbi (by decide)) _
    · exact ownsRow_setCell_other hfr.q (a := ⟨w.heap.size + 1 + 1 + 1, 0, none⟩) (ne_block_of_type hfr.q hbi (by decide)) _
    · refine ⟨_, _, rfl, enters_of Tryz.func220 (by kernel_rfl) rfl, fun W hW h0 hT x b x' b' hx hb hx' hb' => ?_⟩
      exact put1_any (w.heap.size + 1) w.heap.size (w.heap.size + 1 + 1 + 1) x b x' b' hx hb hx' hb' W hW h0 hT (HH.out.1.kp hk6) (HH.out.2.1.kp hk6) kf (hW.box y2) (hW.box y1) (hW.box y3)⟩
  clear hbx hfr hF HK hoth hbi hrow
  go_wp2
  go_ret
  exact FIN.out
theorem until_mk (hl : ps.length < 60) (hf : FnP w (.func (.func fl) #[] cl) f) (hg : FnP w (.func (.func fr) #[] cr) g) (h : FP B M s t wh opn deep ps wvs aw cw w) :
    Calls Tryz.prog 200 #[.pointer (some ⟨B, 5, none⟩), .func (.func fl) #[] cl, .func (.func fr) #[] cr] w (MakePost B M s t wh opn deep (putOff f g false ps) wvs aw cw w) := by
  have HK : Put (_) := ⟨putOff_any false hl hf hg h⟩
  clear hf hg h
  go_enter Tryz.func200, Tryz.ntmps200
  go_wp2_with fail
  refine HK.out.mono ?_
  rintro e' w5 ⟨b, j', rfl, h1, h2, h3⟩
  go_wp2
  go_ret
  exact ⟨_, _, rfl, h1, h2, h3⟩
theorem unless_mk (hl : ps.length < 60) (hf : FnP w (.func (.func fl) #[] cl) f) (hg : FnP w (.func (.func fr) #[] cr) g) (h : FP B M s t wh opn deep ps wvs aw cw w) :
    Calls Tryz.prog 202 #[.pointer (some ⟨B, 5, none⟩), .func (.func fl) #[] cl, .func (.func fr) #[] cr] w (MakePost B M s t wh opn deep (putOff f g true ps) wvs aw cw w) := by
  have HK : Put (_) := ⟨putOff_any true hl hf hg h⟩
  clear hf hg h
  go_enter Tryz.func202, Tryz.ntmps202
  go_wp2_with fail
  refine HK.out.mono ?_
  rintro e' w5 ⟨b, j', rfl, h1, h2, h3⟩
  go_wp2
  go_ret
  exact ⟨_, _, rfl, h1, h2, h3⟩
theorem some_mk (lv : Value) (hl : ps.length < 60) (hg : FnP w (.func (.func fr) #[] cr) g) (h : FP B M s t wh opn deep ps wvs aw cw w) :
    Calls Tryz.prog 198 #[.pointer (some ⟨B, 5, none⟩), lv, .func (.func fr) #[] cr] w (MakePost B M s t wh opn deep (putOff (fun _ _ => true) g false ps) wvs aw cw w) := by
  have HK : Put (_) := ⟨until_mk hl (always_fn w) hg h⟩
  clear hg h
  go_enter Tryz.func198, Tryz.ntmps198
  go_wp2_with fail
  refine HK.out.mono ?_
  rintro e' w5 ⟨b, j', rfl, h1, h2, h3⟩
  go_wp2
  go_ret
  exact ⟨_, _, rfl, h1, h2, h3⟩
theorem all_mk (lv : Value) (hl : ps.length < 60) (hg : FnP w (.func (.func fr) #[] cr) g) (h : FP B M s t wh opn deep ps wvs aw cw w) :
    Calls Tryz.prog 199 #[.pointer (some ⟨B, 5, none⟩), lv, .func (.func fr) #[] cr] w (MakePost B M s t wh opn deep (putOff g (fun _ _ => false) true ps) wvs aw cw w) := by
  have HK : Put (_) := ⟨unless_mk hl hg (never_fn w) h⟩
  clear hg h
  go_enter Tryz.func199, Tryz.ntmps199
  go_wp2_with fail
  refine HK.out.mono ?_
  rintro e' w5 ⟨b, j', rfl, h1, h2, h3⟩
  go_wp2
  go_ret
  exact ⟨_, _, rfl, h1, h2, h3⟩
theorem release_mk (hl : ps.length < 60) (hf : FnP w (.func (.func fl) #[] cl) f) (hg : FnP w (.func (.func fr) #[] cr) g) (h : FP B M s t wh opn deep ps wvs aw cw w) :
    Calls Tryz.prog 201 #[.pointer (some ⟨B, 5, none⟩), .func (.func fl) #[] cl, .func (.func fr) #[] cr] w (MakePost B M s t wh opn deep (putOff g (fun x b => f x b && g x b) true ps) wvs aw cw w) := by
  have HK : Put (_) := ⟨and_any hf hg h⟩
  have HG : Put (_) := ⟨hg⟩
  clear hf hg h
  go_enter Tryz.func201, Tryz.ntmps201
  go_wp2_with fail
  refine HK.out.mono ?_
  rintro e' w5 ⟨b, j', rfl, h1, h2, h3⟩
  have HU : Put (_) := ⟨unless_mk hl (HG.out.kp h3.k) h1 h2⟩
  have HF : Put (_) := ⟨h3⟩
  clear h1 h2 h3 HK
  go_wp2_with fail
  refine HU.out.mono ?_
  rintro e' w6 ⟨b, j', rfl, h1, h2, h3⟩
  go_wp2
  go_ret
  exact ⟨_, _, rfl, h1, h2, HF.out.trans h3⟩
end
end Go.Proofs.YtgoebckimmofoaaGreatDoor

/- What a sign makes: the table. Our own text. -/
namespace Go.Proofs.YtgoebckimmofoaaGreatDoor
open Go.RowKit Go.Lib
/-! A map from bytes to function values, of another type. -/
theorem run_put9 (r : Nat) (es : Array MapEntry) (clock k : Nat) (v : Value) (W : World) (hb : W.heap[r]? = some (.map es clock)) (hk : ∀ x ∈ es.toList, MapKept.IsKey (.int .u8) x.key ∧ x.key ≠ .int .u8 k) :
    (Instr.mapUpdate 302 (.map (some r)) (.int .u8 k) v).run Tryz.prog W = .ok () { W with heap := W.heap.setIfInBounds r (.map (es.push { key := .int .u8 k, val := v, born := clock }) (clock + 1)) } := by
  have hk0 : MapKept.IsKey (.int .u8) (.int .u8 k) := by trivial
  rcases MapKept.findNow_spec hk0 es.toList 0 (fun x hx => (hk x hx).1) with ⟨h1, h2⟩ | ⟨j, e, h1, h2, h3⟩
  · simp [Instr.mapUpdate, run_underlying Tryz.underlying302, MapKept.run_getObj_map hb, MapKept.run_checkKey Tryz.underlying5 hk0, MapKept.run_findKey Tryz.underlying5 h1, MapKept.run_setObj_map _ hb, Result.andThen]
  · exact absurd h3 (hk e (List.mem_of_getElem? (by simpa using h2))).2
theorem run_get9 (r : Nat) (es : Array MapEntry) (clock k : Nat) (v : Value) (W : World) (hb : W.heap[r]? = some (.map es clock)) (hk : ∀ x ∈ es.toList, MapKept.IsKey (.int .u8) x.key ∧ (x.key = .int .u8 k → x.val = v)) (hin : ∃ x ∈ es.toList, x.key = .int .u8 k) :
    (Instr.lookup 302 (.map (some r)) (.int .u8 k) false).run Tryz.prog W = .ok v W := by
  have hk0 : MapKept.IsKey (.int .u8) (.int .u8 k) := by trivial
  rcases MapKept.findNow_spec hk0 es.toList 0 (fun x hx => (hk x hx).1) with ⟨h1, h2⟩ | ⟨j, e, h1, h2, h3⟩
  · obtain ⟨x, hx, he⟩ := hin
    exact absurd he (h2 x hx)
  · have hv := (hk e (List.mem_of_getElem? (by simpa using h2))).2 h3
    rw [hv] at h1
    simp [Instr.lookup, run_underlying Tryz.underlying302, MapKept.run_getObj_map hb, MapKept.run_checkKey Tryz.underlying5 hk0, MapKept.run_findKey Tryz.underlying5 h1, Result.andThen]
theorem put_map9 {W : World} {r : Nat} {l : List (Nat × Nat)} (h : MapAt W r l) (k f : Nat) (hk : ∀ e ∈ l, e.1 ≠ k) :
    ∃ W', (Instr.mapUpdate 302 (.map (some r)) (.int .u8 k) (.func (.func f) #[] #[])).run Tryz.prog W = .ok () W' ∧ MapAt W' r ((k, f) :: l) ∧ Ex r W W' := by
  refine ⟨_, run_put9 r _ _ k _ W h ?_, ?_, ?_⟩
  · intro x hx
    obtain ⟨e, he, h1, h2⟩ := entsOf_mem (l := l) (by simpa using hx)
    rw [h1]
    refine ⟨by trivial, ?_⟩
    intro h3
    simp at h3
    exact hk e he (by omega)
  · unfold MapAt
    have := (MapKept.heap_set (o' := .map ((entsOf l).toArray.push { key := .int .u8 k, val := .func (.func f) #[] #[], born := l.length }) (l.length + 1)) h).1
    simpa [entsOf] using this
  · exact ⟨rfl, rfl, rfl, by simp, fun i _ hi => (MapKept.heap_set h).2 i hi⟩
theorem get_map9 {W : World} {r : Nat} {l : List (Nat × Nat)} (h : MapAt W r l) (k f : Nat) (hin : (k, f) ∈ l) (hu : ∀ e ∈ l, e.1 = k → e.2 = f) :
    (Instr.lookup 302 (.map (some r)) (.int .u8 k) false).run Tryz.prog W = .ok (.func (.func f) #[] #[]) W := by
  refine run_get9 r _ _ k _ W h ?_ ?_
  · intro x hx
    obtain ⟨e, he, h1, h2⟩ := entsOf_mem (l := l) (by simpa using hx)
    rw [h1]
    refine ⟨by trivial, ?_⟩
    intro h3
    simp at h3
    rw [h2, hu e he (by omega)]
  · obtain ⟨x, h1, h2⟩ := mem_entsOf hin
    exact ⟨x, by simpa using h1, h2⟩
section
variable {B M : Nat} {s : ByteArray} {t : T} {wh : Value} {opn deep : Nat} {ps : List Pt} {wvs : List WV} {aw : Option Addr} {cw : Nat} {w : World} {fl fr : Nat} {cl cr : Array Value} {f g : G}
set_option maxRecDepth 100000 in
set_option maxHeartbeats 1600000 in
theorem build_33 (lv : Value) (hg : FnP w (.func (.func fr) #[] cr) g) (h : FP B M s t wh opn deep ps wvs aw cw w) :
    Calls Tryz.prog 174 #[.pointer (some ⟨B, 5, none⟩), .int .u8 33, lv, .func (.func fr) #[] cr] w (MakePost B M s t wh opn deep (bld 33 (fun _ _ => true) g ps) wvs aw cw w) := by
  have hmk : (Instr.makeMap 302 none).run Tryz.prog w = .ok (.map (some w.heap.size)) (w.alloc (.map #[] 0)) := by simp [Instr.makeMap, Result.andThen]
  have m0 : MapAt (w.alloc (.map #[] 0)) w.heap.size [] := heap_alloc_new w (.map #[] 0)
  obtain ⟨W1, r1, m1, x1⟩ := put_map9 m0 33 194 (by simp)
  change (Instr.mapUpdate 302 (.map (some w.heap.size)) (.int .u8 33) (.func (.func 194) #[] #[])).run Tryz.prog (w.alloc (.map #[] 0)) = .ok () W1 at r1
  obtain ⟨W2, r2, m2, x2⟩ := put_map9 m1 38 195 (by simp)
  change (Instr.mapUpdate 302 (.map (some w.heap.size)) (.int .u8 38) (.func (.func 195) #[] #[])).run Tryz.prog W1 = .ok () W2 at r2
  obtain ⟨W3, r3, m3, x3⟩ := put_map9 m2 124 196 (by simp)
  change (Instr.mapUpdate 302 (.map (some w.heap.size)) (.int .u8 124) (.func (.func 196) #[] #[])).run Tryz.prog W2 = .ok () W3 at r3
  obtain ⟨W4, r4, m4, x4⟩ := put_map9 m3 88 197 (by simp)
  change (Instr.mapUpdate 302 (.map (some w.heap.size)) (.int .u8 88) (.func (.func 197) #[] #[])).run Tryz.prog W3 = .ok () W4 at r4
  obtain ⟨W5, r5, m5, x5⟩ := put_map9 m4 70 198 (by simp)
  change (Instr.mapUpdate 302 (.map (some w.heap.size)) (.int .u8 70) (.func (.func 198) #[] #[])).run Tryz.prog W4 = .ok () W5 at r5
  obtain ⟨W6, r6, m6, x6⟩ := put_map9 m5 71 199 (by simp)
  change (Instr.mapUpdate 302 (.map (some w.heap.size)) (.int .u8 71) (.func (.func 199) #[] #[])).run Tryz.prog W5 = .ok () W6 at r6
  obtain ⟨W7, r7, m7, x7⟩ := put_map9 m6 85 200 (by simp)
  change (Instr.mapUpdate 302 (.map (some w.heap.size)) (.int .u8 85) (.func (.func 200) #[] #[])).run Tryz.prog W6 = .ok () W7 at r7
  obtain ⟨W8, r8, m8, x8⟩ := put_map9 m7 82 201 (by simp)
  change (Instr.mapUpdate 302 (.map (some w.heap.size)) (.int .u8 82) (.func (.func 201) #[] #[])).run Tryz.prog W7 = .ok () W8 at r8
  obtain ⟨W9, r9, m9, x9⟩ := put_map9 m8 87 202 (by simp)
  change (Instr.mapUpdate 302 (.map (some w.heap.size)) (.int .u8 87) (.func (.func 202) #[] #[])).run Tryz.prog W8 = .ok () W9 at r9
  have hB : Below w.heap.size w W9 := ((Below.refl _ w).alloc (Nat.le_refl _) _).trans (((((((((x1.trans x2).trans x3).trans x4).trans x5).trans x6).trans x7).trans x8).trans x9).below (Nat.le_refl _) (by simp))
  have kp := KP.of_below hB
  have HM : Put (_) := ⟨not_any lv (hg.kp kp) (h.below hB)⟩
  have HF : Put (Fr B w W9) := ⟨Fr.of_below hB (Nat.le_of_lt h.lt)⟩
  have gg := get_map9 m9 33 194 (by simp) (by simp)
  change (Instr.lookup 302 (.map (some w.heap.size)) (.int .u8 33) false).run Tryz.prog W9 = .ok (.func (.func 194) #[] #[]) W9 at gg
  have en := enters_of Tryz.func194 (by kernel_rfl) rfl
  clear m0 m1 m2 m3 m4 m5 m6 m7 m8 m9 x1 x2 x3 x4 x5 x6 x7 x8 x9 hB kp h hg
  go_enter Tryz.func174, Tryz.ntmps174
  go_wp2_with fail
  refine HM.out.mono ?_
  rintro e' w5 ⟨b, j', rfl, h1, h2, h3⟩
  go_wp2
  go_ret
  exact ⟨_, _, rfl, h1, h2, HF.out.trans h3⟩
set_option maxRecDepth 100000 in
set_option maxHeartbeats 1600000 in
theorem build_38 (hf : FnP w (.func (.func fl) #[] cl) f) (hg : FnP w (.func (.func fr) #[] cr) g) (h : FP B M s t wh opn deep ps wvs aw cw w) :
    Calls Tryz.prog 174 #[.pointer (some ⟨B, 5, none⟩), .int .u8 38, .func (.func fl) #[] cl, .func (.func fr) #[] cr] w (MakePost B M s t wh opn deep (bld 38 f g ps) wvs aw cw w) := by
  have hmk : (Instr.makeMap 302 none).run Tryz.prog w = .ok (.map (some w.heap.size)) (w.alloc (.map #[] 0)) := by simp [Instr.makeMap, Result.andThen]
  have m0 : MapAt (w.alloc (.map #[] 0)) w.heap.size [] := heap_alloc_new w (.map #[] 0)
  obtain ⟨W1, r1, m1, x1⟩ := put_map9 m0 33 194 (by simp)
  change (Instr.mapUpdate 302 (.map (some w.heap.size)) (.int .u8 33) (.func (.func 194) #[] #[])).run Tryz.prog (w.alloc (.map #[] 0)) = .ok () W1 at r1
  obtain ⟨W2, r2, m2, x2⟩ := put_map9 m1 38 195 (by simp)
  change (Instr.mapUpdate 302 (.map (some w.heap.size)) (.int .u8 38) (.func (.func 195) #[] #[])).run Tryz.prog W1 = .ok () W2 at r2
  obtain ⟨W3, r3, m3, x3⟩ := put_map9 m2 124 196 (by simp)
  change (Instr.mapUpdate 302 (.map (some w.heap.size)) (.int .u8 124) (.func (.func 196) #[] #[])).run Tryz.prog W2 = .ok () W3 at r3
  obtain ⟨W4, r4, m4, x4⟩ := put_map9 m3 88 197 (by simp)
  change (Instr.mapUpdate 302 (.map (some w.heap.size)) (.int .u8 88) (.func (.func 197) #[] #[])).run Tryz.prog W3 = .ok () W4 at r4
  obtain ⟨W5, r5, m5, x5⟩ := put_map9 m4 70 198 (by simp)
  change (Instr.mapUpdate 302 (.map (some w.heap.size)) (.int .u8 70) (.func (.func 198) #[] #[])).run Tryz.prog W4 = .ok () W5 at r5
  obtain ⟨W6, r6, m6, x6⟩ := put_map9 m5 71 199 (by simp)
  change (Instr.mapUpdate 302 (.map (some w.heap.size)) (.int .u8 71) (.func (.func 199) #[] #[])).run Tryz.prog W5 = .ok () W6 at r6
  obtain ⟨W7, r7, m7, x7⟩ := put_map9 m6 85 200 (by simp)
  change (Instr.mapUpdate 302 (.map (some w.heap.size)) (.int .u8 85) (.func (.func 200) #[] #[])).run Tryz.prog W6 = .ok () W7 at r7
  obtain ⟨W8, r8, m8, x8⟩ := put_map9 m7 82 201 (by simp)
  change (Instr.mapUpdate 302 (.map (some w.heap.size)) (.int .u8 82) (.func (.func 201) #[] #[])).run Tryz.prog W7 = .ok () W8 at r8
  obtain ⟨W9, r9, m9, x9⟩ := put_map9 m8 87 202 (by simp)
  change (Instr.mapUpdate 302 (.map (some w.heap.size)) (.int .u8 87) (.func (.func 202) #[] #[])).run Tryz.prog W8 = .ok () W9 at r9
  have hB : Below w.heap.size w W9 := ((Below.refl _ w).alloc (Nat.le_refl _) _).trans (((((((((x1.trans x2).trans x3).trans x4).trans x5).trans x6).trans x7).trans x8).trans x9).below (Nat.le_refl _) (by simp))
  have kp := KP.of_below hB
  have HM : Put (_) := ⟨and_any (hf.kp kp) (hg.kp kp) (h.below hB)⟩
  have HF : Put (Fr B w W9) := ⟨Fr.of_below hB (Nat.le_of_lt h.lt)⟩
  have gg := get_map9 m9 38 195 (by simp) (by simp)
  change (Instr.lookup 302 (.map (some w.heap.size)) (.int .u8 38) false).run Tryz.prog W9 = .ok (.func (.func 195) #[] #[]) W9 at gg
  have en := enters_of Tryz.func195 (by kernel_rfl) rfl
  clear m0 m1 m2 m3 m4 m5 m6 m7 m8 m9 x1 x2 x3 x4 x5 x6 x7 x8 x9 hB kp h hg hf
  go_enter Tryz.func174, Tryz.ntmps174
  go_wp2_with fail
  refine HM.out.mono ?_
  rintro e' w5 ⟨b, j', rfl, h1, h2, h3⟩
  go_wp2
  go_ret
  exact ⟨_, _, rfl, h1, h2, HF.out.trans h3⟩
set_option maxRecDepth 100000 in
set_option maxHeartbeats 1600000 in
theorem build_124 (hf : FnP w (.func (.func fl) #[] cl) f) (hg : FnP w (.func (.func fr) #[] cr) g) (h : FP B M s t wh opn deep ps wvs aw cw w) :
    Calls Tryz.prog 174 #[.pointer (some ⟨B, 5, none⟩), .int .u8 124, .func (.func fl) #[] cl, .func (.func fr) #[] cr] w (MakePost B M s t wh opn deep (bld 124 f g ps) wvs aw cw w) := by
  have hmk : (Instr.makeMap 302 none).run Tryz.prog w = .ok (.map (some w.heap.size)) (w.alloc (.map #[] 0)) := by simp [Instr.makeMap, Result.andThen]
  have m0 : MapAt (w.alloc (.map #[] 0)) w.heap.size [] := heap_alloc_new w (.map #[] 0)
  obtain ⟨W1, r1, m1, x1⟩ := put_map9 m0 33 194 (by simp)
  change (Instr.mapUpdate 302 (.map (some w.heap.size)) (.int .u8 33) (.func (.func 194) #[] #[])).run Tryz.prog (w.alloc (.map #[] 0)) = .ok () W1 at r1
  obtain ⟨W2, r2, m2, x2⟩ := put_map9 m1 38 195 (by simp)
  change (Instr.mapUpdate 302 (.map (some w.heap.size)) (.int .u8 38) (.func (.func 195) #[] #[])).run Tryz.prog W1 = .ok () W2 at r2
  obtain ⟨W3, r3, m3, x3⟩ := put_map9 m2 124 196 (by simp)
  change (Instr.mapUpdate 302 (.map (some w.heap.size)) (.int .u8 124) (.func (.func 196) #[] #[])).run Tryz.prog W2 = .ok () W3 at r3
  obtain ⟨W4, r4, m4, x4⟩ := put_map9 m3 88 197 (by simp)
  change (Instr.mapUpdate 302 (.map (some w.heap.size)) (.int .u8 88) (.func (.func 197) #[] #[])).run Tryz.prog W3 = .ok () W4 at r4
  obtain ⟨W5, r5, m5, x5⟩ := put_map9 m4 70 198 (by simp)
  change (Instr.mapUpdate 302 (.map (some w.heap.size)) (.int .u8 70) (.func (.func 198) #[] #[])).run Tryz.prog W4 = .ok () W5 at r5
  obtain ⟨W6, r6, m6, x6⟩ := put_map9 m5 71 199 (by simp)
  change (Instr.mapUpdate 302 (.map (some w.heap.size)) (.int .u8 71) (.func (.func 199) #[] #[])).run Tryz.prog W5 = .ok () W6 at r6
  obtain ⟨W7, r7, m7, x7⟩ := put_map9 m6 85 200 (by simp)
  change (Instr.mapUpdate 302 (.map (some w.heap.size)) (.int .u8 85) (.func (.func 200) #[] #[])).run Tryz.prog W6 = .ok () W7 at r7
  obtain ⟨W8, r8, m8, x8⟩ := put_map9 m7 82 201 (by simp)
  change (Instr.mapUpdate 302 (.map (some w.heap.size)) (.int .u8 82) (.func (.func 201) #[] #[])).run Tryz.prog W7 = .ok () W8 at r8
  obtain ⟨W9, r9, m9, x9⟩ := put_map9 m8 87 202 (by simp)
  change (Instr.mapUpdate 302 (.map (some w.heap.size)) (.int .u8 87) (.func (.func 202) #[] #[])).run Tryz.prog W8 = .ok () W9 at r9
  have hB : Below w.heap.size w W9 := ((Below.refl _ w).alloc (Nat.le_refl _) _).trans (((((((((x1.trans x2).trans x3).trans x4).trans x5).trans x6).trans x7).trans x8).trans x9).below (Nat.le_refl _) (by simp))
  have kp := KP.of_below hB
  have HM : Put (_) := ⟨or_any (hf.kp kp) (hg.kp kp) (h.below hB)⟩
  have HF : Put (Fr B w W9) := ⟨Fr.of_below hB (Nat.le_of_lt h.lt)⟩
  have gg := get_map9 m9 124 196 (by simp) (by simp)
  change (Instr.lookup 302 (.map (some w.heap.size)) (.int .u8 124) false).run Tryz.prog W9 = .ok (.func (.func 196) #[] #[]) W9 at gg
  have en := enters_of Tryz.func196 (by kernel_rfl) rfl
  clear m0 m1 m2 m3 m4 m5 m6 m7 m8 m9 x1 x2 x3 x4 x5 x6 x7 x8 x9 hB kp h hg hf
  go_enter Tryz.func174, Tryz.ntmps174
  go_wp2_with fail
  refine HM.out.mono ?_
  rintro e' w5 ⟨b, j', rfl, h1, h2, h3⟩
  go_wp2
  go_ret
  exact ⟨_, _, rfl, h1, h2, HF.out.trans h3⟩
set_option maxRecDepth 100000 in
set_option maxHeartbeats 1600000 in
theorem build_88 (lv : Value) (hl : ps.length < 60) (hg : FnP w (.func (.func fr) #[] cr) g) (h : FP B M s t wh opn deep ps wvs aw cw w) :
    Calls Tryz.prog 174 #[.pointer (some ⟨B, 5, none⟩), .int .u8 88, lv, .func (.func fr) #[] cr] w (MakePost B M s t wh opn deep (bld 88 (fun _ _ => true) g ps) wvs aw cw w) := by
  have hmk : (Instr.makeMap 302 none).run Tryz.prog w = .ok (.map (some w.heap.size)) (w.alloc (.map #[] 0)) := by simp [Instr.makeMap, Result.andThen]
  have m0 : MapAt (w.alloc (.map #[] 0)) w.heap.size [] := heap_alloc_new w (.map #[] 0)
  obtain ⟨W1, r1, m1, x1⟩ := put_map9 m0 33 194 (by simp)
  change (Instr.mapUpdate 302 (.map (some w.heap.size)) (.int .u8 33) (.func (.func 194) #[] #[])).run Tryz.prog (w.alloc (.map #[] 0)) = .ok () W1 at r1
  obtain ⟨W2, r2, m2, x2⟩ := put_map9 m1 38 195 (by simp)
  change (Instr.mapUpdate 302 (.map (some w.heap.size)) (.int .u8 38) (.func (.func 195) #[] #[])).run Tryz.prog W1 = .ok () W2 at r2
  obtain ⟨W3, r3, m3, x3⟩ := put_map9 m2 124 196 (by simp)
  change (Instr.mapUpdate 302 (.map (some w.heap.size)) (.int .u8 124) (.func (.func 196) #[] #[])).run Tryz.prog W2 = .ok () W3 at r3
  obtain ⟨W4, r4, m4, x4⟩ := put_map9 m3 88 197 (by simp)
  change (Instr.mapUpdate 302 (.map (some w.heap.size)) (.int .u8 88) (.func (.func 197) #[] #[])).run Tryz.prog W3 = .ok () W4 at r4
  obtain ⟨W5, r5, m5, x5⟩ := put_map9 m4 70 198 (by simp)
  change (Instr.mapUpdate 302 (.map (some w.heap.size)) (.int .u8 70) (.func (.func 198) #[] #[])).run Tryz.prog W4 = .ok () W5 at r5
  obtain ⟨W6, r6, m6, x6⟩ := put_map9 m5 71 199 (by simp)
  change (Instr.mapUpdate 302 (.map (some w.heap.size)) (.int .u8 71) (.func (.func 199) #[] #[])).run Tryz.prog W5 = .ok () W6 at r6
  obtain ⟨W7, r7, m7, x7⟩ := put_map9 m6 85 200 (by simp)
  change (Instr.mapUpdate 302 (.map (some w.heap.size)) (.int .u8 85) (.func (.func 200) #[] #[])).run Tryz.prog W6 = .ok () W7 at r7
  obtain ⟨W8, r8, m8, x8⟩ := put_map9 m7 82 201 (by simp)
  change (Instr.mapUpdate 302 (.map (some w.heap.size)) (.int .u8 82) (.func (.func 201) #[] #[])).run Tryz.prog W7 = .ok () W8 at r8
  obtain ⟨W9, r9, m9, x9⟩ := put_map9 m8 87 202 (by simp)
  change (Instr.mapUpdate 302 (.map (some w.heap.size)) (.int .u8 87) (.func (.func 202) #[] #[])).run Tryz.prog W8 = .ok () W9 at r9
  have hB : Below w.heap.size w W9 := ((Below.refl _ w).alloc (Nat.le_refl _) _).trans (((((((((x1.trans x2).trans x3).trans x4).trans x5).trans x6).trans x7).trans x8).trans x9).below (Nat.le_refl _) (by simp))
  have kp := KP.of_below hB
  have HM : Put (_) := ⟨next_mk lv hl (hg.kp kp) (h.below hB)⟩
  have HF : Put (Fr B w W9) := ⟨Fr.of_below hB (Nat.le_of_lt h.lt)⟩
  have gg := get_map9 m9 88 197 (by simp) (by simp)
  change (Instr.lookup 302 (.map (some w.heap.size)) (.int .u8 88) false).run Tryz.prog W9 = .ok (.func (.func 197) #[] #[]) W9 at gg
  have en := enters_of Tryz.func197 (by kernel_rfl) rfl
  clear m0 m1 m2 m3 m4 m5 m6 m7 m8 m9 x1 x2 x3 x4 x5 x6 x7 x8 x9 hB kp h hg
  go_enter Tryz.func174, Tryz.ntmps174
  go_wp2_with fail
  refine HM.out.mono ?_
  rintro e' w5 ⟨b, j', rfl, h1, h2, h3⟩
  go_wp2
  go_ret
  exact ⟨_, _, rfl, h1, h2, HF.out.trans h3⟩
set_option maxRecDepth 100000 in
set_option maxHeartbeats 1600000 in
theorem build_70 (lv : Value) (hl : ps.length < 60) (hg : FnP w (.func (.func fr) #[] cr) g) (h : FP B M s t wh opn deep ps wvs aw cw w) :
    Calls Tryz.prog 174 #[.pointer (some ⟨B, 5, none⟩), .int .u8 70, lv, .func (.func fr) #[] cr] w (MakePost B M s t wh opn deep (bld 70 (fun _ _ => true) g ps) wvs aw cw w) := by
  have hmk : (Instr.makeMap 302 none).run Tryz.prog w = .ok (.map (some w.heap.size)) (w.alloc (.map #[] 0)) := by simp [Instr.makeMap, Result.andThen]
  have m0 : MapAt (w.alloc (.map #[] 0)) w.heap.size [] := heap_alloc_new w (.map #[] 0)
  obtain ⟨W1, r1, m1, x1⟩ := put_map9 m0 33 194 (by simp)
  change (Instr.mapUpdate 302 (.map (some w.heap.size)) (.int .u8 33) (.func (.func 194) #[] #[])).run Tryz.prog (w.alloc (.map #[] 0)) = .ok () W1 at r1
  obtain ⟨W2, r2, m2, x2⟩ := put_map9 m1 38 195 (by simp)
  change (Instr.mapUpdate 302 (.map (some w.heap.size)) (.int .u8 38) (.func (.func 195) #[] #[])).run Tryz.prog W1 = .ok () W2 at r2
  obtain ⟨W3, r3, m3, x3⟩ := put_map9 m2 124 196 (by simp)
  change (Instr.mapUpdate 302 (.map (some w.heap.size)) (.int .u8 124) (.func (.func 196) #[] #[])).run Tryz.prog W2 = .ok () W3 at r3
  obtain ⟨W4, r4, m4, x4⟩ := put_map9 m3 88 197 (by simp)
  change (Instr.mapUpdate 302 (.map (some w.heap.size)) (.int .u8 88) (.func (.func 197) #[] #[])).run Tryz.prog W3 = .ok () W4 at r4
  obtain ⟨W5, r5, m5, x5⟩ := put_map9 m4 70 198 (by simp)
  change (Instr.mapUpdate 302 (.map (some w.heap.size)) (.int .u8 70) (.func (.func 198) #[] #[])).run Tryz.prog W4 = .ok () W5 at r5
  obtain ⟨W6, r6, m6, x6⟩ := put_map9 m5 71 199 (by simp)
  change (Instr.mapUpdate 302 (.map (some w.heap.size)) (.int .u8 71) (.func (.func 199) #[] #[])).run Tryz.prog W5 = .ok () W6 at r6
  obtain ⟨W7, r7, m7, x7⟩ := put_map9 m6 85 200 (by simp)
  change (Instr.mapUpdate 302 (.map (some w.heap.size)) (.int .u8 85) (.func (.func 200) #[] #[])).run Tryz.prog W6 = .ok () W7 at r7
  obtain ⟨W8, r8, m8, x8⟩ := put_map9 m7 82 201 (by simp)
  change (Instr.mapUpdate 302 (.map (some w.heap.size)) (.int .u8 82) (.func (.func 201) #[] #[])).run Tryz.prog W7 = .ok () W8 at r8
  obtain ⟨W9, r9, m9, x9⟩ := put_map9 m8 87 202 (by simp)
  change (Instr.mapUpdate 302 (.map (some w.heap.size)) (.int .u8 87) (.func (.func 202) #[] #[])).run Tryz.prog W8 = .ok () W9 at r9
  have hB : Below w.heap.size w W9 := ((Below.refl _ w).alloc (Nat.le_refl _) _).trans (((((((((x1.trans x2).trans x3).trans x4).trans x5).trans x6).trans x7).trans x8).trans x9).below (Nat.le_refl _) (by simp))
  have kp := KP.of_below hB
  have HM : Put (_) := ⟨some_mk lv hl (hg.kp kp) (h.below hB)⟩
  have HF : Put (Fr B w W9) := ⟨Fr.of_below hB (Nat.le_of_lt h.lt)⟩
  have gg := get_map9 m9 70 198 (by simp) (by simp)
  change (Instr.lookup 302 (.map (some w.heap.size)) (.int .u8 70) false).run Tryz.prog W9 = .ok (.func (.func 198) #[] #[]) W9 at gg
  have en := enters_of Tryz.func198 (by kernel_rfl) rfl
  clear m0 m1 m2 m3 m4 m5 m6 m7 m8 m9 x1 x2 x3 x4 x5 x6 x7 x8 x9 hB kp h hg
  go_enter Tryz.func174, Tryz.ntmps174
  go_wp2_with fail
  refine HM.out.mono ?_
  rintro e' w5 ⟨b, j', rfl, h1, h2, h3⟩
  go_wp2
  go_ret
  exact ⟨_, _, rfl, h1, h2, HF.out.trans h3⟩
set_option maxRecDepth 100000 in
set_option maxHeartbeats 1600000 in
theorem build_71 (lv : Value) (hl : ps.length < 60) (hg : FnP w (.func (.func fr) #[] cr) g) (h : FP B M s t wh opn deep ps wvs aw cw w) :
    Calls Tryz.prog 174 #[.pointer (some ⟨B, 5, none⟩), .int .u8 71, lv, .func (.func fr) #[] cr] w (MakePost B M s t wh opn deep (bld 71 (fun _ _ => true) g ps) wvs aw cw w) := by
  have hmk : (Instr.makeMap 302 none).run Tryz.prog w = .ok (.map (some w.heap.size)) (w.alloc (.map #[] 0)) := by simp [Instr.makeMap, Result.andThen]
  have m0 : MapAt (w.alloc (.map #[] 0)) w.heap.size [] := heap_alloc_new w (.map #[] 0)
  obtain ⟨W1, r1, m1, x1⟩ := put_map9 m0 33 194 (by simp)
  change (Instr.mapUpdate 302 (.map (some w.heap.size)) (.int .u8 33) (.func (.func 194) #[] #[])).run Tryz.prog (w.alloc (.map #[] 0)) = .ok () W1 at r1
  obtain ⟨W2, r2, m2, x2⟩ := put_map9 m1 38 195 (by simp)
  change (Instr.mapUpdate 302 (.map (some w.heap.size)) (.int .u8 38) (.func (.func 195) #[] #[])).run Tryz.prog W1 = .ok () W2 at r2
  obtain ⟨W3, r3, m3, x3⟩ := put_map9 m2 124 196 (by simp)
  change (Instr.mapUpdate 302 (.map (some w.heap.size)) (.int .u8 124) (.func (.func 196) #[] #[])).run Tryz.prog W2 = .ok () W3 at r3
  obtain ⟨W4, r4, m4, x4⟩ := put_map9 m3 88 197 (by simp)
  change (Instr.mapUpdate 302 (.map (some w.heap.size)) (.int .u8 88) (.func (.func 197) #[] #[])).run Tryz.prog W3 = .ok () W4 at r4
  obtain ⟨W5, r5, m5, x5⟩ := put_map9 m4 70 198 (by simp)
  change (Instr.mapUpdate 302 (.map (some w.heap.size)) (.int .u8 70) (.func (.func 198) #[] #[])).run Tryz.prog W4 = .ok () W5 at r5
  obtain ⟨W6, r6, m6, x6⟩ := put_map9 m5 71 199 (by simp)
  change (Instr.mapUpdate 302 (.map (some w.heap.size)) (.int .u8 71) (.func (.func 199) #[] #[])).run Tryz.prog W5 = .ok () W6 at r6
  obtain ⟨W7, r7, m7, x7⟩ := put_map9 m6 85 200 (by simp)
  change (Instr.mapUpdate 302 (.map (some w.heap.size)) (.int .u8 85) (.func (.func 200) #[] #[])).run Tryz.prog W6 = .ok () W7 at r7
  obtain ⟨W8, r8, m8, x8⟩ := put_map9 m7 82 201 (by simp)
  change (Instr.mapUpdate 302 (.map (some w.heap.size)) (.int .u8 82) (.func (.func 201) #[] #[])).run Tryz.prog W7 = .ok () W8 at r8
  obtain ⟨W9, r9, m9, x9⟩ := put_map9 m8 87 202 (by simp)
  change (Instr.mapUpdate 302 (.map (some w.heap.size)) (.int .u8 87) (.func (.func 202) #[] #[])).run Tryz.prog W8 = .ok () W9 at r9
  have hB : Below w.heap.size w W9 := ((Below.refl _ w).alloc (Nat.le_refl _) _).trans (((((((((x1.trans x2).trans x3).trans x4).trans x5).trans x6).trans x7).trans x8).trans x9).below (Nat.le_refl _) (by simp))
  have kp := KP.of_below hB
  have HM : Put (_) := ⟨all_mk lv hl (hg.kp kp) (h.below hB)⟩
  have HF : Put (Fr B w W9) := ⟨Fr.of_below hB (Nat.le_of_lt h.lt)⟩
  have gg := get_map9 m9 71 199 (by simp) (by simp)
  change (Instr.lookup 302 (.map (some w.heap.size)) (.int .u8 71) false).run Tryz.prog W9 = .ok (.func (.func 199) #[] #[]) W9 at gg
  have en := enters_of Tryz.func199 (by kernel_rfl) rfl
  clear m0 m1 m2 m3 m4 m5 m6 m7 m8 m9 x1 x2 x3 x4 x5 x6 x7 x8 x9 hB kp h hg
  go_enter Tryz.func174, Tryz.ntmps174
  go_wp2_with fail
  refine HM.out.mono ?_
  rintro e' w5 ⟨b, j', rfl, h1, h2, h3⟩
  go_wp2
  go_ret
  exact ⟨_, _, rfl, h1, h2, HF.out.trans h3⟩
set_option maxRecDepth 100000 in
set_option maxHeartbeats 1600000 in
theorem build_85 (hl : ps.length < 60) (hf : FnP w (.func (.func fl) #[] cl) f) (hg : FnP w (.func (.func fr) #[] cr) g) (h : FP B M s t wh opn deep ps wvs aw cw w) :
    Calls Tryz.prog 174 #[.pointer (some ⟨B, 5, none⟩), .int .u8 85, .func (.func fl) #[] cl, .func (.func fr) #[] cr] w (MakePost B M s t wh opn deep (bld 85 f g ps) wvs aw cw w) := by
  have hmk : (Instr.makeMap 302 none).run Tryz.prog w = .ok (.map (some w.heap.size)) (w.alloc (.map #[] 0)) := by simp [Instr.makeMap, Result.andThen]
  have m0 : MapAt (w.alloc (.map #[] 0)) w.heap.size [] := heap_alloc_new w (.map #[] 0)
  obtain ⟨W1, r1, m1, x1⟩ := put_map9 m0 33 194 (by simp)
  change (Instr.mapUpdate 302 (.map (some w.heap.size)) (.int .u8 33) (.func (.func 194) #[] #[])).run Tryz.prog (w.alloc (.map #[] 0)) = .ok () W1 at r1
  obtain ⟨W2, r2, m2, x2⟩ := put_map9 m1 38 195 (by simp)
  change (Instr.mapUpdate 302 (.map (some w.heap.size)) (.int .u8 38) (.func (.func 195) #[] #[])).run Tryz.prog W1 = .ok () W2 at r2
  obtain ⟨W3, r3, m3, x3⟩ := put_map9 m2 124 196 (by simp)
  change (Instr.mapUpdate 302 (.map (some w.heap.size)) (.int .u8 124) (.func (.func 196) #[] #[])).run Tryz.prog W2 = .ok () W3 at r3
  obtain ⟨W4, r4, m4, x4⟩ := put_map9 m3 88 197 (by simp)
  change (Instr.mapUpdate 302 (.map (some w.heap.size)) (.int .u8 88) (.func (.func 197) #[] #[])).run Tryz.prog W3 = .ok () W4 at r4
  obtain ⟨W5, r5, m5, x5⟩ := put_map9 m4 70 198 (by simp)
  change (Instr.mapUpdate 302 (.map (some w.heap.size)) (.int .u8 70) (.func (.func 198) #[] #[])).run Tryz.prog W4 = .ok () W5 at r5
  obtain ⟨W6, r6, m6, x6⟩ := put_map9 m5 71 199 (by simp)
  change (Instr.mapUpdate 302 (.map (some w.heap.size)) (.int .u8 71) (.func (.func 199) #[] #[])).run Tryz.prog W5 = .ok () W6 at r6
  obtain ⟨W7, r7, m7, x7⟩ := put_map9 m6 85 200 (by simp)
  change (Instr.mapUpdate 302 (.map (some w.heap.size)) (.int .u8 85) (.func (.func 200) #[] #[])).run Tryz.prog W6 = .ok () W7 at r7
  obtain ⟨W8, r8, m8, x8⟩ := put_map9 m7 82 201 (by simp)
  change (Instr.mapUpdate 302 (.map (some w.heap.size)) (.int .u8 82) (.func (.func 201) #[] #[])).run Tryz.prog W7 = .ok () W8 at r8
  obtain ⟨W9, r9, m9, x9⟩ := put_map9 m8 87 202 (by simp)
  change (Instr.mapUpdate 302 (.map (some w.heap.size)) (.int .u8 87) (.func (.func 202) #[] #[])).run Tryz.prog W8 = .ok () W9 at r9
  have hB : Below w.heap.size w W9 := ((Below.refl _ w).alloc (Nat.le_refl _) _).trans (((((((((x1.trans x2).trans x3).trans x4).trans x5).trans x6).trans x7).trans x8).trans x9).below (Nat.le_refl _) (by simp))
  have kp := KP.of_below hB
  have HM : Put (_) := ⟨until_mk hl (hf.kp kp) (hg.kp kp) (h.below hB)⟩
  have HF : Put (Fr B w W9) := ⟨Fr.of_below hB (Nat.le_of_lt h.lt)⟩
  have gg := get_map9 m9 85 200 (by simp) (by simp)
  change (Instr.lookup 302 (.map (some w.heap.size)) (.int .u8 85) false).run Tryz.prog W9 = .ok (.func (.func 200) #[] #[]) W9 at gg
  have en := enters_of Tryz.func200 (by kernel_rfl) rfl
  clear m0 m1 m2 m3 m4 m5 m6 m7 m8 m9 x1 x2 x3 x4 x5 x6 x7 x8 x9 hB kp h hg hf
  go_enter Tryz.func174, Tryz.ntmps174
  go_wp2_with fail
  refine HM.out.mono ?_
  rintro e' w5 ⟨b, j', rfl, h1, h2, h3⟩
  go_wp2
  go_ret
  exact ⟨_, _, rfl, h1, h2, HF.out.trans h3⟩
set_option maxRecDepth 100000 in
set_option maxHeartbeats 1600000 in
theorem build_82 (hl : ps.length < 60) (hf : FnP w (.func (.func fl) #[] cl) f) (hg : FnP w (.func (.func fr) #[] cr) g) (h : FP B M s t wh opn deep ps wvs aw cw w) :
    Calls Tryz.prog 174 #[.pointer (some ⟨B, 5, none⟩), .int .u8 82, .func (.func fl) #[] cl, .func (.func fr) #[] cr] w (MakePost B M s t wh opn deep (bld 82 f g ps) wvs aw cw w) := by
  have hmk : (Instr.makeMap 302 none).run Tryz.prog w = .ok (.map (some w.heap.size)) (w.alloc (.map #[] 0)) := by simp [Instr.makeMap, Result.andThen]
  have m0 : MapAt (w.alloc (.map #[] 0)) w.heap.size [] := heap_alloc_new w (.map #[] 0)
  obtain ⟨W1, r1, m1, x1⟩ := put_map9 m0 33 194 (by simp)
  change (Instr.mapUpdate 302 (.map (some w.heap.size)) (.int .u8 33) (.func (.func 194) #[] #[])).run Tryz.prog (w.alloc (.map #[] 0)) = .ok () W1 at r1
  obtain ⟨W2, r2, m2, x2⟩ := put_map9 m1 38 195 (by simp)
  change (Instr.mapUpdate 302 (.map (some w.heap.size)) (.int .u8 38) (.func (.func 195) #[] #[])).run Tryz.prog W1 = .ok () W2 at r2
  obtain ⟨W3, r3, m3, x3⟩ := put_map9 m2 124 196 (by simp)
  change (Instr.mapUpdate 302 (.map (some w.heap.size)) (.int .u8 124) (.func (.func 196) #[] #[])).run Tryz.prog W2 = .ok () W3 at r3
  obtain ⟨W4, r4, m4, x4⟩ := put_map9 m3 88 197 (by simp)
  change (Instr.mapUpdate 302 (.map (some w.heap.size)) (.int .u8 88) (.func (.func 197) #[] #[])).run Tryz.prog W3 = .ok () W4 at r4
  obtain ⟨W5, r5, m5, x5⟩ := put_map9 m4 70 198 (by simp)
  change (Instr.mapUpdate 302 (.map (some w.heap.size)) (.int .u8 70) (.func (.func 198) #[] #[])).run Tryz.prog W4 = .ok () W5 at r5
  obtain ⟨W6, r6, m6, x6⟩ := put_map9 m5 71 199 (by simp)
  change (Instr.mapUpdate 302 (.map (some w.heap.size)) (.int .u8 71) (.func (.func 199) #[] #[])).run Tryz.prog W5 = .ok () W6 at r6
  obtain ⟨W7, r7, m7, x7⟩ := put_map9 m6 85 200 (by simp)
  change (Instr.mapUpdate 302 (.map (some w.heap.size)) (.int .u8 85) (.func (.func 200) #[] #[])).run Tryz.prog W6 = .ok () W7 at r7
  obtain ⟨W8, r8, m8, x8⟩ := put_map9 m7 82 201 (by simp)
  change (Instr.mapUpdate 302 (.map (some w.heap.size)) (.int .u8 82) (.func (.func 201) #[] #[])).run Tryz.prog W7 = .ok () W8 at r8
  obtain ⟨W9, r9, m9, x9⟩ := put_map9 m8 87 202 (by simp)
  change (Instr.mapUpdate 302 (.map (some w.heap.size)) (.int .u8 87) (.func (.func 202) #[] #[])).run Tryz.prog W8 = .ok () W9 at r9
  have hB : Below w.heap.size w W9 := ((Below.refl _ w).alloc (Nat.le_refl _) _).trans (((((((((x1.trans x2).trans x3).trans x4).trans x5).trans x6).trans x7).trans x8).trans x9).below (Nat.le_refl _) (by simp))
  have kp := KP.of_below hB
  have HM : Put (_) := ⟨release_mk hl (hf.kp kp) (hg.kp kp) (h.below hB)⟩
  have HF : Put (Fr B w W9) := ⟨Fr.of_below hB (Nat.le_of_lt h.lt)⟩
  have gg := get_map9 m9 82 201 (by simp) (by simp)
  change (Instr.lookup 302 (.map (some w.heap.size)) (.int .u8 82) false).run Tryz.prog W9 = .ok (.func (.func 201) #[] #[]) W9 at gg
  have en := enters_of Tryz.func201 (by kernel_rfl) rfl
  clear m0 m1 m2 m3 m4 m5 m6 m7 m8 m9 x1 x2 x3 x4 x5 x6 x7 x8 x9 hB kp h hg hf
  go_enter Tryz.func174, Tryz.ntmps174
  go_wp2_with fail
  refine HM.out.mono ?_
  rintro e' w5 ⟨b, j', rfl, h1, h2, h3⟩
  go_wp2
  go_ret
  exact ⟨_, _, rfl, h1, h2, HF.out.trans h3⟩
set_option maxRecDepth 100000 in
set_option maxHeartbeats 1600000 in
theorem build_87 (hl : ps.length < 60) (hf : FnP w (.func (.func fl) #[] cl) f) (hg : FnP w (.func (.func fr) #[] cr) g) (h : FP B M s t wh opn deep ps wvs aw cw w) :
    Calls Tryz.prog 174 #[.pointer (some ⟨B, 5, none⟩), .int .u8 87, .func (.func fl) #[] cl, .func (.func fr) #[] cr] w (MakePost B M s t wh opn deep (bld 87 f g ps) wvs aw cw w) := by
  have hmk : (Instr.makeMap 302 none).run Tryz.prog w = .ok (.map (some w.heap.size)) (w.alloc (.map #[] 0)) := by simp [Instr.makeMap, Result.andThen]
  have m0 : MapAt (w.alloc (.map #[] 0)) w.heap.size [] := heap_alloc_new w (.map #[] 0)
  obtain ⟨W1, r1, m1, x1⟩ := put_map9 m0 33 194 (by simp)
  change (Instr.mapUpdate 302 (.map (some w.heap.size)) (.int .u8 33) (.func (.func 194) #[] #[])).run Tryz.prog (w.alloc (.map #[] 0)) = .ok () W1 at r1
  obtain ⟨W2, r2, m2, x2⟩ := put_map9 m1 38 195 (by simp)
  change (Instr.mapUpdate 302 (.map (some w.heap.size)) (.int .u8 38) (.func (.func 195) #[] #[])).run Tryz.prog W1 = .ok () W2 at r2
  obtain ⟨W3, r3, m3, x3⟩ := put_map9 m2 124 196 (by simp)
  change (Instr.mapUpdate 302 (.map (some w.heap.size)) (.int .u8 124) (.func (.func 196) #[] #[])).run Tryz.prog W2 = .ok () W3 at r3
  obtain ⟨W4, r4, m4, x4⟩ := put_map9 m3 88 197 (by simp)
  change (Instr.mapUpdate 302 (.map (some w.heap.size)) (.int .u8 88) (.func (.func 197) #[] #[])).run Tryz.prog W3 = .ok () W4 at r4
  obtain ⟨W5, r5, m5, x5⟩ := put_map9 m4 70 198 (by simp)
  change (Instr.mapUpdate 302 (.map (some w.heap.size)) (.int .u8 70) (.func (.func 198) #[] #[])).run Tryz.prog W4 = .ok () W5 at r5
  obtain ⟨W6, r6, m6, x6⟩ := put_map9 m5 71 199 (by simp)
  change (Instr.mapUpdate 302 (.map (some w.heap.size)) (.int .u8 71) (.func (.func 199) #[] #[])).run Tryz.prog W5 = .ok () W6 at r6
  obtain ⟨W7, r7, m7, x7⟩ := put_map9 m6 85 200 (by simp)
  change (Instr.mapUpdate 302 (.map (some w.heap.size)) (.int .u8 85) (.func (.func 200) #[] #[])).run Tryz.prog W6 = .ok () W7 at r7
  obtain ⟨W8, r8, m8, x8⟩ := put_map9 m7 82 201 (by simp)
  change (Instr.mapUpdate 302 (.map (some w.heap.size)) (.int .u8 82) (.func (.func 201) #[] #[])).run Tryz.prog W7 = .ok () W8 at r8
  obtain ⟨W9, r9, m9, x9⟩ := put_map9 m8 87 202 (by simp)
  change (Instr.mapUpdate 302 (.map (some w.heap.size)) (.int .u8 87) (.func (.func 202) #[] #[])).run Tryz.prog W8 = .ok () W9 at r9
  have hB : Below w.heap.size w W9 := ((Below.refl _ w).alloc (Nat.le_refl _) _).trans (((((((((x1.trans x2).trans x3).trans x4).trans x5).trans x6).trans x7).trans x8).trans x9).below (Nat.le_refl _) (by simp))
  have kp := KP.of_below hB
  have HM : Put (_) := ⟨unless_mk hl (hf.kp kp) (hg.kp kp) (h.below hB)⟩
  have HF : Put (Fr B w W9) := ⟨Fr.of_below hB (Nat.le_of_lt h.lt)⟩
  have gg := get_map9 m9 87 202 (by simp) (by simp)
  change (Instr.lookup 302 (.map (some w.heap.size)) (.int .u8 87) false).run Tryz.prog W9 = .ok (.func (.func 202) #[] #[]) W9 at gg
  have en := enters_of Tryz.func202 (by kernel_rfl) rfl
  clear m0 m1 m2 m3 m4 m5 m6 m7 m8 m9 x1 x2 x3 x4 x5 x6 x7 x8 x9 hB kp h hg hf
  go_enter Tryz.func174, Tryz.ntmps174
  go_wp2_with fail
  refine HM.out.mono ?_
  rintro e' w5 ⟨b, j', rfl, h1, h2, h3⟩
  go_wp2
  go_ret
  exact ⟨_, _, rfl, h1, h2, HF.out.trans h3⟩
/-- Whatever sign. -/
theorem build_any (o : Nat) (lv : Value) (hl : ps.length < 60) (ho : unS o ∨ binS o ∧ FnP w lv f) (hg : FnP w (.func (.func fr) #[] cr) g) (h : FP B M s t wh opn deep ps wvs aw cw w) :
    Calls Tryz.prog 174 #[.pointer (some ⟨B, 5, none⟩), .int .u8 (o : Nat), lv, .func (.func fr) #[] cr] w (MakePost B M s t wh opn deep (bld o f g ps) wvs aw cw w) := by
  rcases ho with ho | ⟨ho, hf⟩
  · rw [bld_un ho f (fun _ _ => true)]
    rcases ho with rfl | rfl | rfl | rfl
    · exact build_33 lv hg h
    · exact build_88 lv hl hg h
    · exact build_70 lv hl hg h
    · exact build_71 lv hl hg h
  · obtain ⟨fn, caps, rfl, _⟩ := hf.form
    rcases ho with rfl | rfl | rfl | rfl | rfl
    · exact build_38 hf hg h
    · exact build_124 hf hg h
    · exact build_85 hl hf hg h
    · exact build_82 hl hf hg h
    · exact build_87 hl hf hg h
end
end Go.Proofs.YtgoebckimmofoaaGreatDoor

/- What waits: whether it waits for some signs, and what ends. Our own text. -/
namespace Go.Proofs.YtgoebckimmofoaaGreatDoor
open Go.RowKit Go.Lib
theorem all2_snoc {α β : Type} {R : α → β → Prop} {b : β} : ∀ {l : List α} {m : List β}, All2 R l (m ++ [b]) → ∃ l' a, l = l' ++ [a] ∧ All2 R l' m ∧ R a b
  | [], [], h => h.elim
  | [], _ :: _, h => h.elim
  | [a], [], h => ⟨[], a, rfl, All2.nil, h.1⟩
  | _ :: _ :: _, [], h => h.2.elim
  | a :: l, c :: m, h => by
    obtain ⟨l', a', h1, h2, h3⟩ := all2_snoc (l := l) (m := m) h.2
    exact ⟨a :: l', a', by rw [h1]; rfl, All2.cons h.1 h2, h3⟩
theorem all2_nil {α β : Type} {R : α → β → Prop} : ∀ {l : List α}, All2 R l ([] : List β) → l = []
  | [], _ => rfl
  | _ :: _, h => h.elim
section
variable {B M : Nat} {s : ByteArray} {t : T} {wh : Value} {opn deep : Nat} {pvs : List PtV} {wvs : List WV} {j : FJ} {w : World}
set_option maxRecDepth 100000 in
set_option maxHeartbeats 1600000 in
theorem waits_nil (l : ByteArray) (h : FRv B M s t wh opn deep pvs [] j w) :
    Calls Tryz.prog 142 #[.pointer (some ⟨B, 0, none⟩), .string l] w fun e w' => e = .returned (.bool false) ∧ w' = w := by
  have c7 := h.c7
  simp only [List.length_nil] at c7
  clear h
  go_enter Tryz.func142, Tryz.ntmps142
  go_wp2
  go_ret
  exact ⟨rfl, rfl⟩
set_option maxRecDepth 100000 in
set_option maxHeartbeats 1600000 in
theorem waits_cons (l : ByteArray) (x : WV) (_hx : x.o < 256) (hl : wvs.length ≤ 100) (h : FRv B M s t wh opn deep pvs (wvs ++ [x]) j w) :
    Calls Tryz.prog 142 #[.pointer (some ⟨B, 0, none⟩), .string l] w fun e w' => e = .returned (.bool (inS l x.o)) ∧ w' = w := by
  have c7 := h.c7
  obtain ⟨g, hg, k0, k1, hcw⟩ := h.last
  rw [hg, List.length_append, List.length_singleton] at c7
  have HI : Put (∀ w, Calls Tryz.prog 171 #[.string l, .int .u8 (x.o : Nat)] w fun e w' => e = .returned (.int .i64 (indexByte l.data.toList x.o.toUInt8)) ∧ w' = w) := ⟨fun w => by
    have := IndexByte_any l ((x.o : Nat) : Int) w
    simpa using this⟩
  have HS : Put (inS l x.o = decide (0 ≤ indexByte l.data.toList x.o.toUInt8)) := ⟨by
    unfold inS
    by_cases h : x.o.toUInt8 ∈ l.data.toList
    · rw [decide_eq_true h, decide_eq_true]
      have : ¬ indexByte l.data.toList x.o.toUInt8 < 0 := fun hn => (indexByte_mem (l := l.data.toList) (c := x.o.toUInt8)).1 hn h
      omega
    · rw [decide_eq_false h, decide_eq_false]
      have := (indexByte_mem (l := l.data.toList) (c := x.o.toUInt8)).2 h
      omega⟩
  rw [HS.out]
  generalize indexByte l.data.toList x.o.toUInt8 = ix at *
  clear h HS hg
  generalize x.o = o at *
  generalize wvs.length = n at *
  have i0 : ((n + 1 : Nat) : Int) - 1 = (n : Int) := by omega
  have i1 : (0 : Int) ≤ (n : Int) := by omega
  go_enter Tryz.func142, Tryz.ntmps142
  go_wp2_with fail
  refine (HI.out _).mono ?_
  rintro e w' ⟨rfl, rfl⟩
  go_wp2
  go_ret
  exact ⟨rfl, rfl⟩
end
end Go.Proofs.YtgoebckimmofoaaGreatDoor
