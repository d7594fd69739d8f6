import Derived.Lib.TrailingZeros
import Derived.Test.YtgoebckimmofoaaGreatDoorRows
import Derived.WalkKit
import Derived.WalkSpells
import Derived.WalkLawsBesides
import Derived.Deep.QuietTactic
import Derived.BigQuiet
import Derived.RegionTactic
import Derived.Scope
import Derived.WalkMore
import Derived.Deep.LoopGhost
import Derived.Deep.AppendLies
import Derived.Deep.RegionHeld3
import Derived.Laws.Bits64b
import Derived.Laws.IdiomStrings
import Derived.Maps.AppendAt
import Derived.RangeFuncBox
import Derived.Deep.RegionLaw
import Derived.Deep.RegionHeld
import Derived.RangeFuncNested
import Derived.RangeFuncBound
import Derived.RangeFuncCalls
import Derived.RangeFuncLeaves
import Derived.Shelf.Abstract
import Derived.Shelf.RegionOpen
import Derived.OwnWalkIn
import Derived.TacticsInMore
import Derived.LoopNIn
import Derived.LoopIn
import Derived.Stop.RegionWithIn
import Derived.MapKept
import Derived.Lib.Bytealg
import Derived.Lib.IndexLaws
import Derived.Laws.EntriesVeiled
import Derived.Test.YtgoebckimmofoaaGreatDoorM1
import Derived.Test.YtgoebckimmofoaaGreatDoorM6
import Derived.Test.YtgoebckimmofoaaGreatDoorM7
import Derived.Test.YtgoebckimmofoaaGreatDoorM9
import Derived.Test.YtgoebckimmofoaaGreatDoorM10
import Derived.Test.YtgoebckimmofoaaGreatDoorM11
import Derived.Test.YtgoebckimmofoaaGreatDoorM12
import Derived.Test.YtgoebckimmofoaaGreatDoorM24
import Derived.Test.YtgoebckimmofoaaGreatDoorM25
import Derived.Test.YtgoebckimmofoaaGreatDoorM4
import Derived.Test.YtgoebckimmofoaaGreatDoorM5
/- The innermost signs get their right side. Our own text. -/
namespace Go.Proofs.YtgoebckimmofoaaGreatDoor
open Go.RowKit Go.Lib
/-- Signs that make something. -/
def Sgn (l : ByteArray) : Prop := ∀ o, o < 256 → inS l o = true → unS o ∨ binS o
/-- The reader, its parts and what waits, with what they mean. -/
def FC (B M : Nat) (s : ByteArray) (t : T) (wh : Value) (opn deep : Nat) (ps : List Pt) (st : List (Nat × G)) (w : World) : Prop :=
  ∃ wvs aw cw, FP B M s t wh opn deep ps wvs aw cw w ∧ All2 (WaitOk w) wvs st.reverse
def EndPost (B M : Nat) (s : ByteArray) (t : T) (wh : Value) (opn deep : Nat) (r : G × List (Nat × G) × List Pt) (w : World) (e : Ending) (w' : World) : Prop :=
  ∃ (f : Nat) (a : Array Value), e = .returned (.func (.func f) #[] a) ∧ FnP w' (.func (.func f) #[] a) r.1 ∧ FC B M s t wh opn deep r.2.2 r.2.1 w' ∧ Fr B w w'
section
variable {B M : Nat} {s : ByteArray} {t : T} {wh : Value} {opn deep : Nat} {ps : List Pt} {st : List (Nat × G)} {w : World} {fr : Nat} {cr : Array Value} {g : G}
theorem WaitOk.all {w w' : World} {l : List WV} {m : List (Nat × G)} (h : All2 (WaitOk w) l m) (k : KP w w') : All2 (WaitOk w') l m := h.mono (fun _ _ h => h.kp k)
theorem FP.popW {wvs : List WV} {x : WV} {aw : Option Addr} {cw : Nat} (h : FP B M s t wh opn deep ps (wvs ++ [x]) aw cw w) : w.frozen? ⟨B, 7, none⟩ = false ∧ wvs.length + 1 ≤ cw ∧ FP B M s t wh opn deep ps wvs aw cw (w.setCell ⟨B, 7, none⟩ (.slice aw wvs.length cw)) ∧ Fr B w (w.setCell ⟨B, 7, none⟩ (.slice aw wvs.length cw)) := by
  obtain ⟨pvs, ap, cp, h1, h2⟩ := h
  obtain ⟨g, hg, _, _, hc⟩ := h1.last
  exact ⟨h1.free 7, hc, ⟨pvs, ap, cp, h1.pop, h2.mono (fun _ _ h => h.kp (h1.frSet 7 _).k)⟩, h1.frSet 7 _⟩
set_option maxRecDepth 100000 in
set_option maxHeartbeats 3200000 in
theorem end_walk (l : ByteArray) (hl : Sgn l) (hp : ps.length + st.length ≤ 60) (hg : FnP w (.func (.func fr) #[] cr) g) (h : FC B M s t wh opn deep ps st w) :
    Calls Tryz.prog 141 #[.pointer (some ⟨B, 0, none⟩), .string l, .func (.func fr) #[] cr] w (EndPost B M s t wh opn deep (endP l st g ps) w) := by
  obtain ⟨R, hR⟩ : ∃ R, R = endP l st g ps := ⟨_, rfl⟩
  rw [← hR]
  have H0 : Put (R = endP l st g ps) := ⟨hR⟩
  have HL : Put (Sgn l) := ⟨hl⟩
  have HG : Put (_) := ⟨hg⟩
  have HC : Put (_) := ⟨h⟩
  clear hR hl hg h
  go_enter Tryz.func141, Tryz.ntmps141
  go_wp2_with fail
  go_loopg [2] st.length (fun gk iv wr => ∃ (fr : Nat) (cr : Array Value) (st' : List (Nat × G)) (ps' : List Pt) (g' : G), iv = .func (.func fr) #[] cr ∧ gk = st'.length ∧ ps'.length + st'.length ≤ 60 ∧ Put (R = endP l st' g' ps') ∧ Put (FnP wr (.func (.func fr) #[] cr) g') ∧ Put (FC B M s t wh opn deep ps' st' wr) ∧ Put (Fr B w wr))
  case atStart => exact ⟨fr, cr, st, ps, g, rfl, rfl, hp, H0, HG, HC, ⟨Fr.refl _ _⟩⟩
  case round =>
    clear H0 HG HC hp
    obtain ⟨f1, c1, st', ps', g', rfl, rfl, hp, H0, HG, HC, HF⟩ := hrel
    obtain ⟨wvs, aw, cw, hfp, hall⟩ := HC.out
    match st', hp, H0, HC, hall with
    | [], hp, H0, HC, hall =>
      obtain rfl := all2_nil hall
      obtain ⟨pvs, ap, cp, hfr, _⟩ := hfp
      have HW : Put (_) := ⟨waits_nil l hfr⟩
      clear hfr hall
      have FIN : Put (EndPost B M s t wh opn deep R w (.returned (.func (.func f1) #[] c1)) wr) := ⟨⟨_, _, rfl, by rw [H0.out]; exact HG.out, by rw [H0.out]; exact HC.out, HF.out⟩⟩
      clear H0 HC HG HF
      go_wp2_with fail
      refine HW.out.mono ?_
      rintro e w' ⟨rfl, rfl⟩
      go_wp2
      go_ret
      exact FIN.out
    | e :: st'', hp, H0, HC, hall =>
      have hall' : All2 (WaitOk wr) wvs (st''.reverse ++ [e]) := by simpa using hall
      obtain ⟨wvs', x, rfl, ha1, hx⟩ := all2_snoc hall'
      have hwl : wvs'.length = st''.length := by have := ha1.length; simpa using this
      have hx256 : x.o < 256 := by rw [hx.1]; exact hx.2.1
      obtain ⟨pvs, ap, cp, hfr, hpo⟩ := hfp
      simp only [List.length_cons] at hp
      have HW : Put (_) := ⟨waits_cons l x hx256 (by omega) hfr⟩
      rw [hx.1] at HW
      cases hin : inS l e.1 with
      | false =>
        rw [hin] at HW
        have FIN : Put (EndPost B M s t wh opn deep R w (.returned (.func (.func f1) #[] c1)) wr) := ⟨⟨_, _, rfl, by rw [H0.out]; simp only [endP, hin]; exact HG.out, by rw [H0.out]; simp only [endP, hin]; exact HC.out, HF.out⟩⟩
        clear hfr hall hall' ha1 hx hpo H0 HC HG HF
        go_wp2_with fail
        refine HW.out.mono ?_
        rintro e w' ⟨rfl, rfl⟩
        go_wp2
        go_ret
        exact FIN.out
      | true =>
        rw [hin] at HW
        obtain ⟨gr, hgr, -, -, -⟩ := hfr.last
        have hgr' : aw = some ⟨gr, 0, none⟩ := hgr
        subst hgr'
        clear hgr
        have HS : Put (∀ (ps : List Pt) (W : World), FP B M s t wh opn deep ps (wvs' ++ [x]) (some ⟨gr, 0, none⟩) cw W → W.cell? ⟨B, 7, none⟩ = some (.slice (some ⟨gr, 0, none⟩) (wvs'.length + 1) cw) ∧ W.cell? ⟨gr, wvs'.length * 2, none⟩ = some (.int .u8 (x.o : Nat)) ∧ W.cell? ⟨gr, wvs'.length * 2 + 1, none⟩ = some x.v) := ⟨fun ps W h => by
          obtain ⟨pvs, ap, cp, h1, _⟩ := h
          obtain ⟨g, hg, h2, h3, _⟩ := h1.last
          obtain rfl : gr = g := by simpa using hg
          have := h1.c7
          rw [List.length_append] at this
          exact ⟨this, h2, h3⟩⟩
        obtain ⟨d7, k0, k1⟩ := HS.out ps' wr ⟨pvs, ap, cp, hfr, hpo⟩
        obtain ⟨f2, a2, hfe, _⟩ := HG.out.form
        have hdr : Below wr.heap.size wr wr.drew := (Below.refl _ _).drew
        have HMd : Put (_) := ⟨build_any (f := e.2) (w := wr.drew) x.o x.v (by omega) (by
          rcases HL.out e.1 hx.2.1 hin with hu | hb
          · left; rw [hx.1]; exact hu
          · right; rw [hx.1]; exact ⟨hb, (hx.2.2.2 hb).kp (KP.of_below hdr)⟩) (HG.out.kp (KP.of_below hdr)) (FP.below ⟨pvs, ap, cp, hfr, hpo⟩ hdr)⟩
        have HX : Put (_ ∧ _) := ⟨ha1, hx⟩
        have HR : Put (R = endP l st'' (bld e.1 e.2 g' ps').1 (bld e.1 e.2 g' ps').2) := ⟨by rw [H0.out]; simp only [endP, hin, if_true]⟩
        rw [hx.1] at HMd
        rw [hx.1] at k0
        rw [hx.1] at HS
        have hbl : (bld e.1 e.2 g' ps').2.length ≤ ps'.length + 1 := by
          have : (bld e.1 e.2 g' ps').2.length = ps'.length + wt e.1 := bld_len (by
            rcases HL.out e.1 hx.2.1 hin with hu | hb
            · have hu' : e.1 = 33 ∨ e.1 = 88 ∨ e.1 = 70 ∨ e.1 = 71 := hu
              omega
            · have hb' : e.1 = 38 ∨ e.1 = 124 ∨ e.1 = 85 ∨ e.1 = 82 ∨ e.1 = 87 := hb
              omega) _ _ _
          have : wt e.1 ≤ 1 := by unfold wt; split <;> omega
          omega
        have HBW : Put (B ≤ wr.heap.size) := ⟨Nat.le_of_lt hfr.lt⟩
        clear hfr hall hall' ha1 hx hpo H0 HC HG hfe hdr
        generalize x.v = xv at *
        generalize e.1 = eo at *
        obtain ⟨n, hn⟩ : ∃ n, n = wvs'.length := ⟨_, rfl⟩
        have HNL : Put (wvs'.length = n) := ⟨hn.symm⟩
        rw [← hn] at d7 k0 k1 HS hwl
        clear hn
        have HWL : Put (n = st''.length) := ⟨hwl⟩
        have hn60 : n ≤ 60 := by omega
        clear hwl
        obtain ⟨L, hL⟩ : ∃ L, L = n + 1 := ⟨_, rfl⟩
        rw [← hL] at d7 HS
        have HLn : Put (L = n + 1) := ⟨hL⟩
        have i0 : (L : Int) - 1 = (n : Int) := by omega
        have i1 : (0 : Int) ≤ (n : Int) := by omega
        have i2 : (n : Int) < (L : Int) := by omega
        have i3 : (n : Int) ≤ (L : Int) := by omega
        clear hL
        go_wp2_with fail
        refine HW.out.mono ?_
        rintro e' wr ⟨rfl, rfl⟩
        clear HW
        go_wp2_with fail
        go_region_held3 (fun w' => w'.cell? ⟨B, 7, none⟩ = some (.slice (some ⟨gr, 0, none⟩) L cw) ∧ w'.cell? ⟨gr, n * 2, none⟩ = some (.int .u8 (eo : Nat)) ∧ w'.cell? ⟨gr, n * 2 + 1, none⟩ = some xv)
          (first | exact HS3.out | exact ⟨d7, k0, k1⟩ | go_keep)
          ((refine HMd.out.mono ?_; rintro e' w3 ⟨fn3, ca3, rfl, hfn3, hfp3, hfr3⟩; have HS3 : Put (w3.cell? ⟨B, 7, none⟩ = some (.slice (some ⟨gr, 0, none⟩) L cw) ∧ w3.cell? ⟨gr, n * 2, none⟩ = some (.int .u8 (eo : Nat)) ∧ w3.cell? ⟨gr, n * 2 + 1, none⟩ = some xv) := ⟨HS.out _ _ hfp3⟩))
        all_goals
          obtain ⟨f7, hcw, hfp4, hfr4⟩ := hfp3.popW
          have d7' := HS3.out.1
          rw [HNL.out] at hcw hfp4 hfr4
          have i4 : (n : Int) ≤ (cw : Int) := by omega
          have FIN : Put (Put (FnP (w3.setCell ⟨B, 7, none⟩ (.slice (some ⟨gr, 0, none⟩) n cw)) (.func (.func fn3) #[] ca3) (bld eo e.2 g' ps').1) ∧ Put (FC B M s t wh opn deep (bld eo e.2 g' ps').2 st'' (w3.setCell ⟨B, 7, none⟩ (.slice (some ⟨gr, 0, none⟩) n cw))) ∧ Put (Fr B w (w3.setCell ⟨B, 7, none⟩ (.slice (some ⟨gr, 0, none⟩) n cw)))) := ⟨⟨hfn3.kp hfr4.k⟩, ⟨⟨wvs', _, _, hfp4, WaitOk.all HX.out.1 (((KP.of_below ((Below.refl _ _).drew)).trans hfr3.k).trans hfr4.k)⟩⟩, ⟨HF.out.trans (((Fr.of_below ((Below.refl _ _).drew) HBW.out).trans hfr3).trans hfr4)⟩⟩
          clear hfp3 hfp4 hfr4 hfn3 hfr3 HS3
          go_wp2
          go_roundg st''.length
          case measure => simp
          case rel => exact ⟨fn3, ca3, st'', (bld eo e.2 g' ps').2, (bld eo e.2 g' ps').1, rfl, rfl, by omega, HR, FIN.out.1, FIN.out.2.1, FIN.out.2.2⟩
end
end Go.Proofs.YtgoebckimmofoaaGreatDoor

/- Brackets, and what has no formula within it. Our own text. -/
namespace Go.Proofs.YtgoebckimmofoaaGreatDoor
open Go.RowKit Go.Lib
section
variable {B M : Nat} {s : ByteArray} {t t' : T} {wh : Value} {opn deep : Nat} {ps : List Pt} {st : List (Nat × G)} {w w' : World} {g : G}
/-- What a step of the reader alone leaves, and the whole of it. -/
theorem FC.step (h : FC B M s t wh opn deep ps st w) : ∃ rest, RG B M 204 rest s t w ∧ ∀ t' w', RG B M 204 rest s t' w' → Ex B w w' → FC B M s t' wh opn deep ps st w' ∧ Fr B w w' := by
  obtain ⟨wvs, aw, cw, ⟨pvs, ap, cp, hfr, hpo⟩, hall⟩ := h
  refine ⟨_, hfr.g, fun t' w' g e => ?_⟩
  have hF := hfr.fr e
  exact ⟨⟨wvs, aw, cw, ⟨pvs, ap, cp, hfr.up g e, hpo.mono (fun _ _ h => h.kp hF.k)⟩, WaitOk.all hall hF.k⟩, hF⟩
theorem FC.lt (h : FC B M s t wh opn deep ps st w) : B < w.heap.size := by
  obtain ⟨wvs, aw, cw, h1, _⟩ := h
  exact h1.lt
theorem FC.below (h : FC B M s t wh opn deep ps st w) (hb : Below w.heap.size w w') : FC B M s t wh opn deep ps st w' := by
  obtain ⟨wvs, aw, cw, h1, h2⟩ := h
  exact ⟨wvs, aw, cw, h1.below hb, WaitOk.all h2 (KP.of_below hb)⟩
theorem plain1_any {f : Fn} {a : Array Value} {R : Nat → Bool} (bc x b : Nat) (hx : x < 64) (W : World) (hW : KP w W) (h0 : 0 < W.heap.size) (hT : Tab W) (hc : FnK 0 w (.func f #[] a) (fun y => .bool (R y))) (b1 : W.heap[bc]? = some (.cells #[.func f #[] a] 217 (0, 0))) :
    Calls Tryz.prog 173 #[.agg #[.int .u8 (x : Nat), .int .u8 (b : Nat)], .pointer (some ⟨bc, 0, none⟩)] W fun e W' => e = .returned (.bool (R x)) ∧ Below W.heap.size W W' := by
  have c1 := box_cell b1
  have l1 := lt_of_block b1
  have HA : Put (Below W.heap.size W (W.alloc (.cells #[.int .u8 (x : Nat), .int .u8 (b : Nat)] 157))) := ⟨(Below.refl _ _).alloc (Nat.le_refl _) _⟩
  obtain ⟨fn, caps, e, en, hk⟩ := hc
  obtain ⟨rfl, rfl⟩ : f = .func fn ∧ a = caps := by simpa using e
  have HG : Put (_) := ⟨hk (W.alloc (.cells #[.int .u8 (x : Nat), .int .u8 (b : Nat)] 157)) ((hW.trans (KP.of_below HA.out)) 0) (by simp) (hT.below HA.out h0) x hx⟩
  clear hW hT hk b1 e
  go_enter Tryz.func173, Tryz.ntmps173
  go_wp2_with fail
  refine HG.out.mono ?_
  rintro e w1 ⟨rfl, hb1⟩
  go_wp2
  go_ret
  exact ⟨rfl, HA.out.trans (hb1.mono HA.out.size)⟩
set_option maxRecDepth 100000 in
set_option maxHeartbeats 1600000 in
theorem plain_T {k : Nat} (hs : s.size ≤ 120) (h : FC B M s t wh opn deep ps st w) (hn : num? s t.at_ 84 0 0 = some k) :
    Calls Tryz.prog 140 #[.pointer (some ⟨B, 0, none⟩)] w fun e w' => e = .returned (.tuple #[.func (.func 172) #[] #[], .bool true]) ∧ FC B M s t.adv wh opn deep ps st w' ∧ Fr B w w' := by
  obtain ⟨rest, hg, hup⟩ := h.step
  have HT : Put (_) := ⟨take_yes0 84 k hs (by omega) hg hn⟩
  have HU : Put (_) := ⟨hup⟩
  clear h hg hup hn
  go_enter Tryz.func140, Tryz.ntmps140
  go_wp2_with fail
  refine HT.out.mono ?_
  rintro e w1 ⟨rfl, hg1, hx1⟩
  have FIN : Put (_ ∧ _) := ⟨HU.out _ _ hg1 hx1⟩
  clear hg1 hx1
  go_wp2
  go_ret2
  exact ⟨rfl, FIN.out⟩
set_option maxRecDepth 100000 in
set_option maxHeartbeats 1600000 in
theorem plain_yes (hs : s.size ≤ 120) (hat : t.at_ ≤ s.size) (h : FC B M s t wh opn deep ps st w) (hn : num? s t.at_ 84 0 0 = none) (hp : pCond s t = (true, t')) :
    Calls Tryz.prog 140 #[.pointer (some ⟨B, 0, none⟩)] w fun e w' => (∃ f a, e = .returned (.tuple #[.func (.func f) #[] a, .bool true]) ∧ FnP w' (.func (.func f) #[] a) (fun x _ => cdP s (cdOf s t.at_) x)) ∧ FC B M s t' wh opn deep ps st w' ∧ Fr B w w' := by
  have hmf : ∀ (fn : Fn) (first cap : Array Value) (w : World), (Instr.makeFunc fn first cap).run Tryz.prog w = .ok (.func fn first cap) w := fun _ _ _ _ => rfl
  obtain ⟨rest, hg, hup⟩ := h.step
  have HT : Put (_) := ⟨take_no0 84 hs hat (by omega) hg hn⟩
  have HU : Put (_) := ⟨hup⟩
  clear h hg hup hn
  go_enter Tryz.func140, Tryz.ntmps140
  go_wp2_with fail
  refine HT.out.mono ?_
  rintro e w1 ⟨rfl, hg1, hx1⟩
  clear HT
  have HC : Put (_) := ⟨cond_yes soft_FR hs hat hg1 hp⟩
  have HX1 : Put (_) := ⟨hx1⟩
  clear hg1 hx1
  go_wp2_with fail
  refine HC.out.mono ?_
  rintro e w2 ⟨⟨f2, a2, rfl, hf2⟩, hg2, hx2⟩
  have FIN : Put (_ ∧ _) := ⟨HU.out _ _ hg2 (HX1.out.trans hx2)⟩
  have HF2 : Put (_) := ⟨hf2⟩
  clear hg2 hx2 hf2 HC
  have hb : Below w2.heap.size w2 (w2.alloc (.cells #[.func f2 #[] a2] 217)) := (Below.refl _ _).alloc (Nat.le_refl _) _
  have HB : Put (_) := ⟨hb⟩
  clear hb
  go_wp2
  go_ret2
  refine ⟨⟨_, _, rfl, ⟨_, _, rfl, enters_of Tryz.func173 (by kernel_rfl) rfl, fun W hW h0 hT x b hx hb => ?_⟩⟩, FIN.out.1.below HB.out, FIN.out.2.trans (Fr.of_below HB.out (Nat.le_of_lt FIN.out.1.lt))⟩
  exact plain1_any (R := fun y => cdP s (cdOf s t.at_) y) w2.heap.size x b hx W ((KP.of_below HB.out).trans hW) h0 hT HF2.out (hW.box (heap_alloc_new w2 (.cells #[.func f2 #[] a2] 217)))
set_option maxRecDepth 100000 in
set_option maxHeartbeats 1600000 in
theorem plain_no (hs : s.size ≤ 120) (hat : t.at_ ≤ s.size) (h : FC B M s t wh opn deep ps st w) (hn : num? s t.at_ 84 0 0 = none) (hp : pCond s t = (false, t')) :
    Calls Tryz.prog 140 #[.pointer (some ⟨B, 0, none⟩)] w fun e w' => (∃ f a, e = .returned (.tuple #[.func (.func f) #[] a, .bool false])) ∧ FC B M s t' wh opn deep ps st w' ∧ Fr B w w' := by
  have hmf : ∀ (fn : Fn) (first cap : Array Value) (w : World), (Instr.makeFunc fn first cap).run Tryz.prog w = .ok (.func fn first cap) w := fun _ _ _ _ => rfl
  obtain ⟨rest, hg, hup⟩ := h.step
  have HT : Put (_) := ⟨take_no0 84 hs hat (by omega) hg hn⟩
  have HU : Put (_) := ⟨hup⟩
  clear h hg hup hn
  go_enter Tryz.func140, Tryz.ntmps140
  go_wp2_with fail
  refine HT.out.mono ?_
  rintro e w1 ⟨rfl, hg1, hx1⟩
  clear HT
  have HC : Put (_) := ⟨cond_no hs hat hg1 hp⟩
  have HX1 : Put (_) := ⟨hx1⟩
  clear hg1 hx1
  go_wp2_with fail
  refine HC.out.mono ?_
  rintro e w2 ⟨rfl, hg2, hx2⟩
  have FIN : Put (_ ∧ _) := ⟨HU.out _ _ hg2 (HX1.out.trans hx2)⟩
  clear hg2 hx2 HC
  have hb : Below w2.heap.size w2 (w2.alloc (.cells #[.nilFunc] 217)) := (Below.refl _ _).alloc (Nat.le_refl _) _
  have HB : Put (_) := ⟨hb⟩
  clear hb
  go_wp2
  go_ret2
  exact ⟨⟨_, _, rfl⟩, FIN.out.1.below HB.out, FIN.out.2.trans (Fr.of_below HB.out (Nat.le_of_lt FIN.out.1.lt))⟩
end
end Go.Proofs.YtgoebckimmofoaaGreatDoor

/- Brackets. Our own text. -/
namespace Go.Proofs.YtgoebckimmofoaaGreatDoor
open Go.RowKit Go.Lib
theorem WV.one (o : Nat) : ∀ u ∈ (⟨o, .nilFunc⟩ : WV).cells, u.oneCell' = true := by
  intro u hu
  simp only [WV.cells, List.mem_cons, List.not_mem_nil, or_false] at hu
  rcases hu with rfl | rfl <;> rfl
theorem not_bin40 : ¬ binS 40 := by unfold binS; omega
section
variable {B M : Nat} {s : ByteArray} {t t' : T} {wh : Value} {opn deep : Nat} {ps : List Pt} {st : List (Nat × G)} {w w' : World} {g : G}
/-- One more waits. -/
theorem FC.push {pvs : List PtV} {wvs : List WV} {j : FJ} {w5 : World} {gg cap : Nat} (h : FRv B M s t wh opn deep pvs wvs j w) (hpo : All2 (PartOk w) pvs ps) (hall : All2 (WaitOk w) wvs st.reverse) (x : WV) (e : Nat × G) (hx : WaitOk w x e)
    (hg : w.grownBy w5 (Value.slice j.aw wvs.length j.cw).ownBlock) (hr : w5.ownsRow (B + 1) 259 2 (.slice (some ⟨gg, 0, none⟩) (wvs.length + 1) cap) (wvs.length + 1) (wvs.flatMap WV.cells ++ x.cells)) :
    FC B M s t wh opn deep ps (e :: st) (w5.setCell ⟨B, 7, none⟩ (.slice (some ⟨gg, 0, none⟩) (wvs.length + 1) cap)) ∧ Fr B w (w5.setCell ⟨B, 7, none⟩ (.slice (some ⟨gg, 0, none⟩) (wvs.length + 1) cap)) := by
  obtain ⟨h1, h2⟩ := h.grownW (wvs' := wvs ++ [x]) (aw' := some ⟨gg, 0, none⟩) (cw' := cap) hg (by rw [List.length_append, List.flatMap_append]; simpa using hr)
  rw [List.length_append] at h1 h2
  refine ⟨⟨wvs ++ [x], _, _, ⟨pvs, _, _, h1, hpo.mono (fun _ _ h => h.kp h2.k)⟩, ?_⟩, h2⟩
  rw [List.reverse_cons]
  exact All2.snoc (R := WaitOk _) (hx.kp h2.k) (WaitOk.all hall h2.k)
theorem FC.cells (h : FC B M s t wh opn deep ps st w) : w.cell? ⟨B, 1, none⟩ = some (.int .i64 t.at_) ∧ w.cell? ⟨B, 8, none⟩ = some (.int .i64 opn) ∧ w.cell? ⟨B, 9, none⟩ = some (.int .i64 deep) ∧ w.cell? ⟨B, 5, none⟩ = some wh ∧ ∀ i, w.frozen? ⟨B, i, none⟩ = false := by
  obtain ⟨wvs, aw, cw, ⟨pvs, ap, cp, hfr, hpo⟩, hall⟩ := h
  exact ⟨hfr.g.c1, hfr.c8, hfr.c9, hfr.c5, hfr.free⟩
theorem FC.set8 (h : FC B M s t wh opn deep ps st w) (k : Nat) : FC B M s t wh k deep ps st (w.setCell ⟨B, 8, none⟩ (.int .i64 k)) ∧ Fr B w (w.setCell ⟨B, 8, none⟩ (.int .i64 k)) := by
  obtain ⟨wvs, aw, cw, ⟨pvs, ap, cp, hfr, hpo⟩, hall⟩ := h
  have hF := hfr.frSet 8 (.int .i64 k)
  exact ⟨⟨wvs, aw, cw, ⟨pvs, ap, cp, hfr.set8 k, hpo.mono (fun _ _ h => h.kp hF.k)⟩, WaitOk.all hall hF.k⟩, hF⟩
theorem FC.set9 (h : FC B M s t wh opn deep ps st w) (k : Nat) : FC B M s t wh opn k ps st (w.setCell ⟨B, 9, none⟩ (.int .i64 k)) ∧ Fr B w (w.setCell ⟨B, 9, none⟩ (.int .i64 k)) := by
  obtain ⟨wvs, aw, cw, ⟨pvs, ap, cp, hfr, hpo⟩, hall⟩ := h
  have hF := hfr.frSet 9 (.int .i64 k)
  exact ⟨⟨wvs, aw, cw, ⟨pvs, ap, cp, hfr.set9 k, hpo.mono (fun _ _ h => h.kp hF.k)⟩, WaitOk.all hall hF.k⟩, hF⟩
theorem FC.set5 (h : FC B M s t wh opn deep ps st w) (v : Value) : FC B M s t v opn deep ps st (w.setCell ⟨B, 5, none⟩ v) ∧ Fr B w (w.setCell ⟨B, 5, none⟩ v) := by
  obtain ⟨wvs, aw, cw, ⟨pvs, ap, cp, hfr, hpo⟩, hall⟩ := h
  have hF := hfr.frSet 5 v
  exact ⟨⟨wvs, aw, cw, ⟨pvs, ap, cp, hfr.set5 v, hpo.mono (fun _ _ h => h.kp hF.k)⟩, WaitOk.all hall hF.k⟩, hF⟩
set_option maxRecDepth 100000 in
set_option maxHeartbeats 1600000 in
theorem opens_no (hs : s.size ≤ 120) (hat : t.at_ ≤ s.size) (h : FC B M s t wh opn deep ps st w) (hn : num? s t.at_ 40 0 0 = none) :
    Calls Tryz.prog 138 #[.pointer (some ⟨B, 0, none⟩)] w fun e w' => e = .returned (.bool false) ∧ FC B M s t wh opn deep ps st w' ∧ Fr B w w' := by
  obtain ⟨rest, hg, hup⟩ := h.step
  have HT : Put (_) := ⟨take_no0 40 hs hat (by omega) hg hn⟩
  have HU : Put (_) := ⟨hup⟩
  clear h hg hup hn
  go_enter Tryz.func138, Tryz.ntmps138
  go_wp2_with fail
  refine HT.out.mono ?_
  rintro e w1 ⟨rfl, hg1, hx1⟩
  have FIN : Put (_ ∧ _) := ⟨HU.out _ _ hg1 hx1⟩
  clear hg1 hx1
  go_wp2
  go_ret
  exact ⟨rfl, FIN.out⟩
set_option maxRecDepth 100000 in
set_option maxHeartbeats 1600000 in
theorem opens_yes {k : Nat} (hs : s.size ≤ 120) (hl : st.length ≤ 60) (ho : opn ≤ 60) (h : FC B M s t wh opn deep ps st w) (hn : num? s t.at_ 40 0 0 = some k) :
    Calls Tryz.prog 138 #[.pointer (some ⟨B, 0, none⟩)] w fun e w' => e = .returned (.bool true) ∧ FC B M s t.adv wh (opn + 1) (if 10 < opn + 1 ∧ deep = 0 then t.at_ else deep) ps ((40, g) :: st) w' ∧ Fr B w w' := by
  obtain ⟨i0, hi, hz0, hz1, hz2⟩ := info_parts infoW
  have hlt := num_lt hn
  obtain ⟨D, hD⟩ : ∃ D, D = (if 10 < opn + 1 ∧ deep = 0 then t.at_ else deep) := ⟨_, rfl⟩
  rw [← hD]
  have HD : Put (_ = _) := ⟨hD⟩
  clear hD
  obtain ⟨rest, hg, hup⟩ := h.step
  have HT : Put (_) := ⟨take_yes0 40 k hs (by omega) hg hn⟩
  have HU : Put (_) := ⟨hup⟩
  clear h hg hup hn
  go_enter Tryz.func138, Tryz.ntmps138
  go_wp2_with fail
  refine HT.out.mono ?_
  rintro e w1 ⟨rfl, hg1, hx1⟩
  obtain ⟨hc1, hF1⟩ := HU.out _ _ hg1 hx1
  obtain ⟨wvs, aw, cw, ⟨pvs, ap, cp, hfr, hpo⟩, hall⟩ := hc1
  have hwl : wvs.length ≤ 60 := by have := hall.length; simp at this; omega
  have d7 := hfr.c7
  have hB := hfr.lt
  have HH : Put (_ ∧ _ ∧ _ ∧ _) := ⟨hfr, hpo, hall, hF1⟩
  clear hg1 hx1 HT HU hfr hpo hall hF1
  go_wp2_with (at_builtin; refine wpList_append_own _ rfl _ _ 202 rfl (B + 1) 259 i0 _ 2 16 Tryz.underlying202 hi hz0 hz1 hz2 rfl (Nat.succ_pos 1) (.slice aw wvs.length cw) wvs.length (wvs.flatMap WV.cells) rfl (HH.out.1.q.alloc _) ⟨w1.heap.size, 0, none⟩ 1 1 ((⟨40, .nilFunc⟩ : WV).cells) rfl rfl (news_here _ _ _) (WV.one 40) ?c3 ?c4 ?c5 ?_)
  case c3 => unfold maxLen; omega
  case c4 => omega
  case c5 => simp; omega
  intro v' w5 hown' hgrow _
  obtain ⟨g5, cap5, hv5⟩ := owned_form hown' (by omega)
  subst hv5
  have hal : Below w1.heap.size w1 (w1.alloc (.cells ((⟨40, .nilFunc⟩ : WV).cells).toArray 259)) := (Below.refl _ _).alloc (Nat.le_refl _) _
  have hfa := HH.out.1.below hal
  have g5' := hfa.g.grown hgrow (ne_own (Nat.lt_succ_self B) hfa.q) (ne_own (Nat.lt_trans hfa.g.lo (Nat.lt_succ_self B)) hfa.q)
  have k7 : w5.cell? ⟨B, 7, none⟩ = some (.slice aw wvs.length cw) := by simp [World.cell?, g5'.blk, rblk, frest]
  have f7 := g5'.free 7
  obtain ⟨hc6, hF6⟩ := FC.push (st := st) hfa (HH.out.2.1.mono (fun _ _ h => h.kp (KP.of_below hal))) (WaitOk.all HH.out.2.2.1 (KP.of_below hal)) ⟨40, .nilFunc⟩ (40, g) ⟨rfl, by show 40 < 256; omega, .inl rfl, fun h => absurd h not_bin40⟩ hgrow hown'
  have hF6' := (HH.out.2.2.2.trans (Fr.of_below hal (Nat.le_of_lt hB))).trans hF6
  obtain ⟨e1, e8, e9, -, efr⟩ := hc6.cells
  have fr8 := efr 8
  have fr9 := efr 9
  have H6 : Put (_ ∧ _) := ⟨hc6, hF6'⟩
  have he1 : ((t.adv.at_ : Nat) : Int) - 1 = (t.at_ : Int) := by show ((t.at_ + 1 : Nat) : Int) - 1 = _; omega
  have hat' : t.adv.at_ ≤ 120 := by show t.at_ + 1 ≤ 120; omega
  clear hal hfa g5' hc6 hF6 hF6' hown' hgrow efr HH d7
  generalize t.adv.at_ = ta at *
  obtain ⟨h7c, h7F⟩ := H6.out.1.set8 (opn + 1)
  obtain ⟨-, -, m9, -, mfr⟩ := h7c.cells
  have H7 : Put (_ ∧ _) := ⟨h7c, H6.out.2.trans h7F⟩
  have cst : ((opn + 1 : Nat) : Int) = (opn : Int) + 1 := by omega
  rw [cst] at H7
  clear h7c h7F H6 m9 mfr
  by_cases hd : 10 < opn + 1 ∧ deep = 0
  · have hd1 : (10 : Int) < (opn : Int) + 1 := by omega
    have hd2 : deep = 0 := hd.2
    have FIN : Put (_ ∧ _) := ⟨H7.out.1.set9 t.at_⟩
    have HE : Put (D = t.at_) := ⟨by rw [HD.out, if_pos hd]⟩
    subst hd2
    clear hd
    go_wp2
    go_ret
    rw [HE.out]
    exact ⟨rfl, FIN.out.1, H7.out.2.trans FIN.out.2⟩
  · have HE : Put (D = deep) := ⟨by rw [HD.out, if_neg hd]⟩
    by_cases h10 : 10 < opn + 1
    · have hd1 : (10 : Int) < (opn : Int) + 1 := by omega
      have hd2 : ((deep : Int) == 0) = false := by simp; omega
      clear hd h10
      go_wp2
      go_ret
      rw [HE.out]
      exact ⟨rfl, H7.out⟩
    · have hd1 : ¬ (10 : Int) < (opn : Int) + 1 := by omega
      clear hd h10
      go_wp2
      go_ret
      rw [HE.out]
      exact ⟨rfl, H7.out⟩
set_option maxRecDepth 100000 in
set_option maxHeartbeats 1600000 in
theorem closes_zero (h : FC B M s t wh 0 deep ps st w) :
    Calls Tryz.prog 143 #[.pointer (some ⟨B, 0, none⟩)] w fun e w' => e = .returned (.bool false) ∧ FC B M s t wh 0 deep ps st w' ∧ Fr B w w' := by
  obtain ⟨-, e8, -, -, -⟩ := h.cells
  have HH : Put (_) := ⟨h⟩
  clear h
  go_enter Tryz.func143, Tryz.ntmps143
  go_wp2
  go_ret
  exact ⟨rfl, HH.out, Fr.refl _ _⟩
set_option maxRecDepth 100000 in
set_option maxHeartbeats 1600000 in
theorem closes_no (hs : s.size ≤ 120) (hat : t.at_ ≤ s.size) (ho : opn ≠ 0) (h : FC B M s t wh opn deep ps st w) (hn : num? s t.at_ 41 0 0 = none) :
    Calls Tryz.prog 143 #[.pointer (some ⟨B, 0, none⟩)] w fun e w' => e = .returned (.bool false) ∧ FC B M s t wh opn deep ps st w' ∧ Fr B w w' := by
  obtain ⟨-, e8, -, -, -⟩ := h.cells
  obtain ⟨rest, hg, hup⟩ := h.step
  have HT : Put (_) := ⟨take_no0 41 hs hat (by omega) hg hn⟩
  have HU : Put (_) := ⟨hup⟩
  have ho' : ((opn : Int) == 0) = false := by simp; omega
  clear h hg hup hn ho
  go_enter Tryz.func143, Tryz.ntmps143
  go_wp2_with fail
  refine HT.out.mono ?_
  rintro e w1 ⟨rfl, hg1, hx1⟩
  have FIN : Put (_ ∧ _) := ⟨HU.out _ _ hg1 hx1⟩
  clear hg1 hx1
  go_wp2
  go_ret
  exact ⟨rfl, FIN.out⟩
set_option maxRecDepth 100000 in
set_option maxHeartbeats 1600000 in
theorem closes_yes {k : Nat} {e : Nat × G} (hs : s.size ≤ 120) (hl : st.length ≤ 60) (ho : opn ≠ 0) (ho60 : opn ≤ 60) (h : FC B M s t wh opn deep ps (e :: st) w) (hn : num? s t.at_ 41 0 0 = some k) :
    Calls Tryz.prog 143 #[.pointer (some ⟨B, 0, none⟩)] w fun e w' => e = .returned (.bool true) ∧ FC B M s t.adv wh (opn - 1) deep ps st w' ∧ Fr B w w' := by
  obtain ⟨-, e8, -, -, -⟩ := h.cells
  obtain ⟨rest, hg, hup⟩ := h.step
  have HT : Put (_) := ⟨take_yes0 41 k hs (by omega) hg hn⟩
  have HU : Put (_) := ⟨hup⟩
  have ho' : ((opn : Int) == 0) = false := by simp; omega
  clear h hg hup hn
  go_enter Tryz.func143, Tryz.ntmps143
  go_wp2_with fail
  refine HT.out.mono ?_
  rintro e' w1 ⟨rfl, hg1, hx1⟩
  obtain ⟨hc1, hF1⟩ := HU.out _ _ hg1 hx1
  obtain ⟨wvs, aw, cw, hfp, hall⟩ := hc1
  have hall' : All2 (WaitOk w1) wvs (st.reverse ++ [e]) := by simpa using hall
  obtain ⟨wvs', x, rfl, ha1, hx⟩ := all2_snoc hall'
  have hwl : wvs'.length = st.length := by have := ha1.length; simpa using this
  have d7 : w1.cell? ⟨B, 7, none⟩ = some (.slice aw (wvs'.length + 1) cw) := by
    obtain ⟨pvs, ap, cp, hfr, _⟩ := hfp
    have := hfr.c7
    rw [List.length_append] at this; exact this
  obtain ⟨gr, hgr⟩ : ∃ gr, aw = some ⟨gr, 0, none⟩ := by
    obtain ⟨pvs, ap, cp, hfr, _⟩ := hfp
    obtain ⟨g, h1, _⟩ := hfr.last
    exact ⟨g, h1⟩
  subst hgr
  obtain ⟨f7, hcw, hfp4, hfr4⟩ := hfp.popW
  have hc4 : FC B M s t.adv wh opn deep ps st _ := ⟨wvs', _, _, hfp4, WaitOk.all ha1 hfr4.k⟩
  obtain ⟨-, e8', -, -, efr⟩ := hc4.cells
  have fr8 := efr 8
  obtain ⟨hc5, hF5⟩ := hc4.set8 (opn - 1)
  have FIN : Put (_ ∧ _) := ⟨hc5, (hF1.trans hfr4).trans hF5⟩
  have cst : ((opn - 1 : Nat) : Int) = (opn : Int) - 1 := by omega
  rw [cst] at FIN
  have hn60 : wvs'.length ≤ 60 := by omega
  clear hfp hfp4 hfr4 hc4 hc5 hF5 efr hall hall' ha1 hx hF1 HU HT hg1 hx1 hwl
  generalize wvs'.length = n at *
  obtain ⟨L, hL⟩ : ∃ L, L = n + 1 := ⟨_, rfl⟩
  rw [← hL] at d7 hcw
  have i0 : (L : Int) - 1 = (n : Int) := by omega
  have i1 : (0 : Int) ≤ (n : Int) := by omega
  have i2 : (n : Int) ≤ (L : Int) := by omega
  have i3 : (n : Int) ≤ (cw : Int) := by omega
  have i4 : IntKind.i64.wrap (n : Int) = (n : Int) := by simp [IntKind.wrap, IntKind.signed, IntKind.bits]; omega
  clear hL
  go_wp2_with fail
  refine wp_region_held (S := fun _ => True) (by kernel_rfl) ?_
  have hS0 : (fun _ : World => True) { w1 with drawn := w1.drawn + 1 } := trivial
  refine wpAnyH_take (i := 0) (v := ?_) rfl (by kernel_rfl) (by kernel_rfl) (by kernel_rfl) (fun _ _ _ h => h) (Or.inl ⟨by rfl, ?_⟩) hS0 ?_
  rotate_left
  · intro w hSw; (try dsimp only at hSw); go_simp; try (with_reducible rfl)
  rotate_left
  (try simp only [Act.put, List.setIfInBounds_toArray])
  refine wpAnyH_take (i := 1) (v := ?_) rfl (by kernel_rfl) (by kernel_rfl) (by kernel_rfl) (fun _ _ _ h => h) (Or.inl ⟨by rfl, ?_⟩) hS0 ?_
  rotate_left
  · intro w hSw; (try dsimp only at hSw); go_simp; try (with_reducible rfl)
  rotate_left
  (try simp only [Act.put])
  refine wpAnyH_take (i := 2) (v := ?_) rfl (by kernel_rfl) (by kernel_rfl) (by kernel_rfl) (fun _ _ _ h => h) (Or.inl ⟨by rfl, ?_⟩) hS0 ?_
  rotate_left
  · intro w hSw; (try dsimp only at hSw); go_simp; try (with_reducible rfl)
  rotate_left
  (try simp only [Act.put])
  refine wpAnyH_take (i := 3) (v := ?_) rfl (by kernel_rfl) (by kernel_rfl) (by kernel_rfl) (fun _ _ _ h => h) (Or.inl ⟨by rfl, ?_⟩) hS0 ?_
  rotate_left
  · intro w hSw; (try dsimp only at hSw); go_simp; try (with_reducible rfl)
  rotate_left
  (try simp only [Act.put])
  refine wpAnyH_take (i := 5) (v := ?_) rfl (by kernel_rfl) (by kernel_rfl) (by kernel_rfl) (fun _ _ _ h => h) (Or.inl ⟨by rfl, ?_⟩) hS0 ?_
  rotate_left
  · intro w hSw; (try dsimp only at hSw); go_simp; try (with_reducible rfl)
  rotate_left
  (try simp only [Act.put])
  refine wpAnyH_take (i := 6) (v := ?_) rfl (by kernel_rfl) (by kernel_rfl) (by kernel_rfl) (fun _ _ _ h => h) (Or.inl ⟨by rfl, ?_⟩) hS0 ?_
  rotate_left
  · intro w hSw; (try dsimp only at hSw); go_simp; try (with_reducible rfl)
  rotate_left
  (try simp only [Act.put])
  refine wpAnyH_take (i := 7) (v := ?_) rfl (by kernel_rfl) (by kernel_rfl) (by kernel_rfl) (fun _ _ _ h => h) (Or.inl ⟨by rfl, ?_⟩) hS0 ?_
  rotate_left
  · intro w hSw; (try dsimp only at hSw); go_simp; try (with_reducible rfl)
  rotate_left
  (try simp only [Act.put])
  refine wpAnyH_ready (rs := [4, 8]) (by kernel_rfl) (by simp) ?_
  refine AllReadyH.cons rfl (fun K hK => ?_) ?_
  ·
    go_simp
    refine hK.out _ _ ?_ (fun _ => ?_)
    · exact trivial
    clear hK K
    (try simp only [Act.put, List.setIfInBounds_toArray, List.set_cons_zero, List.set_cons_succ])
    refine wpAnyH_ready (rs := [8]) (by kernel_rfl) (by simp) ?_
    refine AllReadyH.cons rfl (fun K hK => ?_) ?_
    ·
      go_simp
      refine hK.out _ _ ?_ (fun _ => ?_)
      · exact trivial
      clear hK K
      (try simp only [Act.put, List.setIfInBounds_toArray, List.set_cons_zero, List.set_cons_succ])
      refine wpAnyH_ready (rs := [9]) (by kernel_rfl) (by simp) ?_
      refine AllReadyH.cons rfl (fun K hK => ?_) ?_
      ·
        go_simp
        refine hK.out _ _ ?_ (fun _ => ?_)
        · exact trivial
        clear hK K
        (try simp only [Act.put, List.setIfInBounds_toArray, List.set_cons_zero, List.set_cons_succ])
        refine wpAnyH_ready (rs := [10]) (by kernel_rfl) (by simp) ?_
        refine AllReadyH.cons rfl (fun K hK => ?_) ?_
        ·
          go_simp
          refine hK.out _ _ ?_ (fun _ => ?_)
          · exact trivial
          clear hK K
          (try simp only [Act.put, List.setIfInBounds_toArray, List.set_cons_zero, List.set_cons_succ])
          refine wpAnyH_ready (rs := [11]) (by kernel_rfl) (by simp) ?_
          refine AllReadyH.cons rfl (fun K hK => ?_) ?_
          ·
            go_simp
            refine hK.out _ _ ?_ (fun _ => ?_)
            · exact trivial
            clear hK K
            (try simp only [Act.put, List.setIfInBounds_toArray, List.set_cons_zero, List.set_cons_succ])
            refine wpAnyH_ready (rs := [12]) (by kernel_rfl) (by simp) ?_
            refine AllReadyH.cons rfl (fun K hK => ?_) ?_
            ·
              go_simp
              refine hK.out _ _ ?_ (fun _ => ?_)
              · exact trivial
              clear hK K
              (try simp only [Act.put, List.setIfInBounds_toArray, List.set_cons_zero, List.set_cons_succ])
              refine wpAnyH_ready (rs := [13]) (by kernel_rfl) (by simp) ?_
              refine AllReadyH.cons rfl (fun K hK => ?_) ?_
              ·
                go_simp
                refine hK.out _ _ ?_ (fun _ => ?_)
                · exact trivial
                clear hK K
                (try simp only [Act.put, List.setIfInBounds_toArray, List.set_cons_zero, List.set_cons_succ])
                refine wpAnyH_ready (rs := [14]) (by kernel_rfl) (by simp) ?_
                refine AllReadyH.cons rfl (fun K hK => ?_) ?_
                ·
                  go_simp
                  refine hK.out _ _ ?_ (fun _ => ?_)
                  · exact trivial
                  clear hK K
                  (try simp only [Act.put, List.setIfInBounds_toArray, List.set_cons_zero, List.set_cons_succ])
                  refine wpAnyH_done (by kernel_rfl) ?_ _
                  go_wp2
                  go_ret
                  exact ⟨rfl, FIN.out.1.below ((Below.refl _ _).drew), FIN.out.2.trans (Fr.of_below ((Below.refl _ _).drew) (Nat.le_of_lt FIN.out.1.lt))⟩
                exact AllReadyH.nil
              exact AllReadyH.nil
            exact AllReadyH.nil
          exact AllReadyH.nil
        exact AllReadyH.nil
      exact AllReadyH.nil
    exact AllReadyH.nil
  refine AllReadyH.cons rfl (fun K hK => ?_) ?_
  ·
    go_simp
    refine hK.out _ _ ?_ (fun _ => ?_)
    · exact trivial
    clear hK K
    (try simp only [Act.put, List.setIfInBounds_toArray, List.set_cons_zero, List.set_cons_succ])
    refine wpAnyH_ready (rs := [4, 9]) (by kernel_rfl) (by simp) ?_
    refine AllReadyH.cons rfl (fun K hK => ?_) ?_
    ·
      go_simp
      refine hK.out _ _ ?_ (fun _ => ?_)
      · exact trivial
      clear hK K
      (try simp only [Act.put, List.setIfInBounds_toArray, List.set_cons_zero, List.set_cons_succ])
      refine wpAnyH_ready (rs := [9]) (by kernel_rfl) (by simp) ?_
      refine AllReadyH.cons rfl (fun K hK => ?_) ?_
      ·
        go_simp
        refine hK.out _ _ ?_ (fun _ => ?_)
        · exact trivial
        clear hK K
        (try simp only [Act.put, List.setIfInBounds_toArray, List.set_cons_zero, List.set_cons_succ])
        refine wpAnyH_ready (rs := [10]) (by kernel_rfl) (by simp) ?_
        refine AllReadyH.cons rfl (fun K hK => ?_) ?_
        ·
          go_simp
          refine hK.out _ _ ?_ (fun _ => ?_)
          · exact trivial
          clear hK K
          (try simp only [Act.put, List.setIfInBounds_toArray, List.set_cons_zero, List.set_cons_succ])
          refine wpAnyH_ready (rs := [11]) (by kernel_rfl) (by simp) ?_
          refine AllReadyH.cons rfl (fun K hK => ?_) ?_
          ·
            go_simp
            refine hK.out _ _ ?_ (fun _ => ?_)
            · exact trivial
            clear hK K
            (try simp only [Act.put, List.setIfInBounds_toArray, List.set_cons_zero, List.set_cons_succ])
            refine wpAnyH_ready (rs := [12]) (by kernel_rfl) (by simp) ?_
            refine AllReadyH.cons rfl (fun K hK => ?_) ?_
            ·
              go_simp
              refine hK.out _ _ ?_ (fun _ => ?_)
              · exact trivial
              clear hK K
              (try simp only [Act.put, List.setIfInBounds_toArray, List.set_cons_zero, List.set_cons_succ])
              refine wpAnyH_ready (rs := [13]) (by kernel_rfl) (by simp) ?_
              refine AllReadyH.cons rfl (fun K hK => ?_) ?_
              ·
                go_simp
                refine hK.out _ _ ?_ (fun _ => ?_)
                · exact trivial
                clear hK K
                (try simp only [Act.put, List.setIfInBounds_toArray, List.set_cons_zero, List.set_cons_succ])
                refine wpAnyH_ready (rs := [14]) (by kernel_rfl) (by simp) ?_
                refine AllReadyH.cons rfl (fun K hK => ?_) ?_
                ·
                  go_simp
                  refine hK.out _ _ ?_ (fun _ => ?_)
                  · exact trivial
                  clear hK K
                  (try simp only [Act.put, List.setIfInBounds_toArray, List.set_cons_zero, List.set_cons_succ])
                  refine wpAnyH_done (by kernel_rfl) ?_ _
                  go_wp2
                  go_ret
                  exact ⟨rfl, FIN.out.1.below ((Below.refl _ _).drew), FIN.out.2.trans (Fr.of_below ((Below.refl _ _).drew) (Nat.le_of_lt FIN.out.1.lt))⟩
                exact AllReadyH.nil
              exact AllReadyH.nil
            exact AllReadyH.nil
          exact AllReadyH.nil
        exact AllReadyH.nil
      exact AllReadyH.nil
    refine AllReadyH.cons rfl (fun K hK => ?_) ?_
    ·
      go_simp
      refine hK.out _ _ ?_ (fun _ => ?_)
      · exact trivial
      clear hK K
      (try simp only [Act.put, List.setIfInBounds_toArray, List.set_cons_zero, List.set_cons_succ])
      refine wpAnyH_ready (rs := [4, 10]) (by kernel_rfl) (by simp) ?_
      refine AllReadyH.cons rfl (fun K hK => ?_) ?_
      ·
        go_simp
        refine hK.out _ _ ?_ (fun _ => ?_)
        · exact trivial
        clear hK K
        (try simp only [Act.put, List.setIfInBounds_toArray, List.set_cons_zero, List.set_cons_succ])
        refine wpAnyH_ready (rs := [10]) (by kernel_rfl) (by simp) ?_
        refine AllReadyH.cons rfl (fun K hK => ?_) ?_
        ·
          go_simp
          refine hK.out _ _ ?_ (fun _ => ?_)
          · exact trivial
          clear hK K
          (try simp only [Act.put, List.setIfInBounds_toArray, List.set_cons_zero, List.set_cons_succ])
          refine wpAnyH_ready (rs := [11]) (by kernel_rfl) (by simp) ?_
          refine AllReadyH.cons rfl (fun K hK => ?_) ?_
          ·
            go_simp
            refine hK.out _ _ ?_ (fun _ => ?_)
            · exact trivial
            clear hK K
            (try simp only [Act.put, List.setIfInBounds_toArray, List.set_cons_zero, List.set_cons_succ])
            refine wpAnyH_ready (rs := [12]) (by kernel_rfl) (by simp) ?_
            refine AllReadyH.cons rfl (fun K hK => ?_) ?_
            ·
              go_simp
              refine hK.out _ _ ?_ (fun _ => ?_)
              · exact trivial
              clear hK K
              (try simp only [Act.put, List.setIfInBounds_toArray, List.set_cons_zero, List.set_cons_succ])
              refine wpAnyH_ready (rs := [13]) (by kernel_rfl) (by simp) ?_
              refine AllReadyH.cons rfl (fun K hK => ?_) ?_
              ·
                go_simp
                refine hK.out _ _ ?_ (fun _ => ?_)
                · exact trivial
                clear hK K
                (try simp only [Act.put, List.setIfInBounds_toArray, List.set_cons_zero, List.set_cons_succ])
                refine wpAnyH_ready (rs := [14]) (by kernel_rfl) (by simp) ?_
                refine AllReadyH.cons rfl (fun K hK => ?_) ?_
                ·
                  go_simp
                  refine hK.out _ _ ?_ (fun _ => ?_)
                  · exact trivial
                  clear hK K
                  (try simp only [Act.put, List.setIfInBounds_toArray, List.set_cons_zero, List.set_cons_succ])
                  refine wpAnyH_done (by kernel_rfl) ?_ _
                  go_wp2
                  go_ret
                  exact ⟨rfl, FIN.out.1.below ((Below.refl _ _).drew), FIN.out.2.trans (Fr.of_below ((Below.refl _ _).drew) (Nat.le_of_lt FIN.out.1.lt))⟩
                exact AllReadyH.nil
              exact AllReadyH.nil
            exact AllReadyH.nil
          exact AllReadyH.nil
        exact AllReadyH.nil
      refine AllReadyH.cons rfl (fun K hK => ?_) ?_
      ·
        go_simp
        refine hK.out _ _ ?_ (fun _ => ?_)
        · exact trivial
        clear hK K
        (try simp only [Act.put, List.setIfInBounds_toArray, List.set_cons_zero, List.set_cons_succ])
        refine wpAnyH_ready (rs := [4]) (by kernel_rfl) (by simp) ?_
        refine AllReadyH.cons rfl (fun K hK => ?_) ?_
        ·
          go_simp
          refine hK.out _ _ ?_ (fun _ => ?_)
          · exact trivial
          clear hK K
          (try simp only [Act.put, List.setIfInBounds_toArray, List.set_cons_zero, List.set_cons_succ])
          refine wpAnyH_ready (rs := [11]) (by kernel_rfl) (by simp) ?_
          refine AllReadyH.cons rfl (fun K hK => ?_) ?_
          ·
            go_simp
            refine hK.out _ _ ?_ (fun _ => ?_)
            · exact trivial
            clear hK K
            (try simp only [Act.put, List.setIfInBounds_toArray, List.set_cons_zero, List.set_cons_succ])
            refine wpAnyH_ready (rs := [12]) (by kernel_rfl) (by simp) ?_
            refine AllReadyH.cons rfl (fun K hK => ?_) ?_
            ·
              go_simp
              refine hK.out _ _ ?_ (fun _ => ?_)
              · exact trivial
              clear hK K
              (try simp only [Act.put, List.setIfInBounds_toArray, List.set_cons_zero, List.set_cons_succ])
              refine wpAnyH_ready (rs := [13]) (by kernel_rfl) (by simp) ?_
              refine AllReadyH.cons rfl (fun K hK => ?_) ?_
              ·
                go_simp
                refine hK.out _ _ ?_ (fun _ => ?_)
                · exact trivial
                clear hK K
                (try simp only [Act.put, List.setIfInBounds_toArray, List.set_cons_zero, List.set_cons_succ])
                refine wpAnyH_ready (rs := [14]) (by kernel_rfl) (by simp) ?_
                refine AllReadyH.cons rfl (fun K hK => ?_) ?_
                ·
                  go_simp
                  refine hK.out _ _ ?_ (fun _ => ?_)
                  · exact trivial
                  clear hK K
                  (try simp only [Act.put, List.setIfInBounds_toArray, List.set_cons_zero, List.set_cons_succ])
                  refine wpAnyH_done (by kernel_rfl) ?_ _
                  go_wp2
                  go_ret
                  exact ⟨rfl, FIN.out.1.below ((Below.refl _ _).drew), FIN.out.2.trans (Fr.of_below ((Below.refl _ _).drew) (Nat.le_of_lt FIN.out.1.lt))⟩
                exact AllReadyH.nil
              exact AllReadyH.nil
            exact AllReadyH.nil
          exact AllReadyH.nil
        exact AllReadyH.nil
      exact AllReadyH.nil
    exact AllReadyH.nil
  exact AllReadyH.nil
end
end Go.Proofs.YtgoebckimmofoaaGreatDoor
