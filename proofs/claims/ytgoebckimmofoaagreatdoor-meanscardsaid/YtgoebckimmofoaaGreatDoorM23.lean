import Derived.Test.YtgoebckimmofoaaGreatDoorRows
import Derived.WalkKit
import Derived.WalkSpells
import Derived.WalkLawsBesides
import Derived.Deep.QuietTactic
import Derived.BigQuiet
import Derived.RegionTactic
import Derived.Lib.TrailingZeros
import Derived.Laws.Bits64b
import Derived.Deep.LoopGhost
import Derived.Deep.RegionLaw
import Derived.Deep.RegionHeld3
import Derived.Stop.RegionWithIn
import Derived.Shelf.RegionOpen
import Derived.Scope
import Derived.WalkMore
import Derived.Deep.AppendLies
import Derived.Laws.IdiomStrings
import Derived.Maps.AppendAt
import Derived.RangeFuncBox
import Derived.Deep.RegionHeld
import Derived.RangeFuncNested
import Derived.RangeFuncBound
import Derived.RangeFuncCalls
import Derived.RangeFuncLeaves
import Derived.Shelf.Abstract
import Derived.OwnWalkIn
import Derived.TacticsInMore
import Derived.LoopNIn
import Derived.LoopIn
import Derived.Deep.OwnRows
import Derived.Test.YtgoebckimmofoaaGreatDoorM1
import Derived.Test.YtgoebckimmofoaaGreatDoorM2
import Derived.Test.YtgoebckimmofoaaGreatDoorM4
import Derived.Test.YtgoebckimmofoaaGreatDoorM5
import Derived.Test.YtgoebckimmofoaaGreatDoorM6
import Derived.Test.YtgoebckimmofoaaGreatDoorM7
import Derived.Test.YtgoebckimmofoaaGreatDoorM8
import Derived.Test.YtgoebckimmofoaaGreatDoorM11
import Derived.Test.YtgoebckimmofoaaGreatDoorM17
import Derived.Test.YtgoebckimmofoaaGreatDoorM18
import Derived.Test.YtgoebckimmofoaaGreatDoorM19
import Derived.Test.YtgoebckimmofoaaGreatDoorM20
import Derived.Test.YtgoebckimmofoaaGreatDoorM21
import Derived.Test.YtgoebckimmofoaaGreatDoorM22
import Derived.MapKept
import Derived.Lib.Bytealg
import Derived.Lib.IndexLaws
import Derived.Laws.EntriesVeiled
import Derived.Deep.DrawnRows
import Derived.Test.YtgoebckimmofoaaGreatDoorM9
import Derived.Test.YtgoebckimmofoaaGreatDoorM16
import Derived.Test.YtgoebckimmofoaaGreatDoorM10
import Derived.Test.YtgoebckimmofoaaGreatDoorM13
/- The document's Places, as a whole, and Holds. Our own text. -/
namespace Go.Proofs.YtgoebckimmofoaaGreatDoor
open Go.RowKit Go.Lib
theorem okT_le {st : ByteArray} {tops : List Nat} (h : okT st tops) (ht : ∀ x ∈ tops, x ≤ 3) : ∀ x ∈ dgs st, x ≤ 3 := by
  obtain ⟨_, h2, h3⟩ := okT_dgs h
  intro x hx
  obtain ⟨k, hk, rfl⟩ := List.getElem_of_mem hx
  exact Nat.le_trans (h3 k hk (by omega)) (ht _ (List.getElem_mem _))
theorem so_S (s : ByteArray) (c : Tm × Tm) (tops : List Nat) (ht : ∀ x ∈ tops, x ≤ 3) (hc : c.1.1 < (tops.length : Int) ∧ c.2.1 < (tops.length : Int)) {st : ByteArray} (h : okT st tops) (w : World) :
    Calls Tryz.prog 68 #[(cC s c).agg, .string st] w fun e w' => e = .returned (.bool (soS s c st)) ∧ Below w.heap.size w w' := by
  obtain ⟨h1, h2, _⟩ := okT_dgs h
  have := so_any (w := w) (cC s c) (dgs st) (okT_le h ht) (by rw [h2]; exact hc.1) (by rw [h2]; exact hc.2)
  rw [← h1] at this
  exact this
theorem places_any (s : ByteArray) (L : List ByteArray) (loop : Nat) (tops : List Nat) (ht : ∀ x ∈ tops, x ≤ 3) (hn : L.length ≤ 7000) (hl : loop < L.length) (hL : ∀ st ∈ L, okT st tops) (ao : Option Addr) (cap : Nat) (t : Fm) : ∀ (M : Nat) (vs : List Value) (w : World), t.Ok → t.Nm tops.length → NV M s w t vs → Reads w (.slice ao L.length cap) L →
    Calls Tryz.prog 45 #[.agg vs.toArray, .agg #[.slice ao L.length cap, .int .i64 loop]] w (PlPost w (plF s L loop t)) := by
  have h0 : 0 < L.length := by omega
  induction t with
  | mk o c n k ih =>
    intro M vs w ho hm hv hr
    match n, k, ih, ho, hm, hv with
    | 0, k, ih, ho, hm, hv =>
      rcases ho with rfl | ⟨rfl, hc⟩
      · have e : vs = [.int .u8 84, .int .i64 0, .int .i64 0, .int .i64 0, .int .i64 0, .int .i64 0, .int .i64 0, .int .u8 0, .slice none 0 0] := hv
        have hR : plF s L loop ⟨84, c, 0, k⟩ = List.replicate L.length true := by
          show L.map (fun st => if 84 = 84 then true else soS s c st) = _
          apply List.ext_getElem <;> simp
        rw [hR, e]
        exact places_tt h0 hn
      · have e : vs = .int .u8 99 :: c7 s c ++ [.slice none 0 0] := hv
        have hR : plF s L loop ⟨99, c, 0, k⟩ = L.map (soS s c) := by
          show L.map (fun st => if 99 = 84 then true else soS s c st) = _
          simp
        rw [hR, e]
        exact places_c (cC s c) (soS s c) h0 hn hr (fun st hst w => so_S s c tops ht (hm rfl) (hL st hst) w)
    | 1, k, ih, ho, hm, hv =>
      obtain ⟨hop, hok⟩ := ho
      obtain ⟨b, cp, us, e, _, hblk, hNV⟩ := hv
      subst e
      have hlen := plF_len s L loop (k 0) hok
      have HP : ∀ w', Below w.heap.size w w' → Calls Tryz.prog 45 #[.agg us.toArray, .agg #[.slice ao L.length cap, .int .i64 loop]] w' (PlPost w' (plF s L loop (k 0))) := fun w' hb => ih 0 M us w' hok hm (hNV.keep (Nat.le_refl _) (fun k _ h2 => hb.block k h2)) (hr.below hb)
      obtain ⟨y0, y1, y2, y3, y4, y5, y6, y7, y8, rfl⟩ := len9 hNV.len
      rcases hop with rfl | rfl | rfl | rfl
      · exact places_33 b cp _ _ _ _ _ _ _ _ _ _ h0 hn hl hlen hblk HP
      · exact places_88 b cp _ _ _ _ _ _ _ _ _ _ h0 hn hl hlen hblk HP
      · exact places_70 b cp _ _ _ _ _ _ _ _ _ _ h0 hn hl hlen hblk HP
      · exact places_71 b cp _ _ _ _ _ _ _ _ _ _ h0 hn hl hlen hblk HP
    | 2, k, ih, ho, hm, hv =>
      obtain ⟨hop, hok, hok1⟩ := ho
      obtain ⟨b, cp, us, ts, e, _, hblk, hNV, hNV1⟩ := hv
      subst e
      have hlen := plF_len s L loop (k 0) hok
      have hlen1 := plF_len s L loop (k 1) hok1
      have HP : ∀ w', Below w.heap.size w w' → Calls Tryz.prog 45 #[.agg us.toArray, .agg #[.slice ao L.length cap, .int .i64 loop]] w' (PlPost w' (plF s L loop (k 0))) := fun w' hb => ih 0 M us w' hok hm.1 (hNV.keep (Nat.le_refl _) (fun k _ h2 => hb.block k h2)) (hr.below hb)
      have HP1 : ∀ w', Below w.heap.size w w' → Calls Tryz.prog 45 #[.agg ts.toArray, .agg #[.slice ao L.length cap, .int .i64 loop]] w' (PlPost w' (plF s L loop (k 1))) := fun w' hb => ih 1 M ts w' hok1 hm.2 (hNV1.keep (Nat.le_refl _) (fun k _ h2 => hb.block k h2)) (hr.below hb)
      obtain ⟨y0, y1, y2, y3, y4, y5, y6, y7, y8, rfl⟩ := len9 hNV.len
      obtain ⟨t0, t1, t2, t3, t4, t5, t6, t7, t8, rfl⟩ := len9 hNV1.len
      rcases hop with rfl | rfl | rfl | rfl | rfl
      · exact places_38 b cp _ _ _ _ _ _ _ _ _ _ _ _ _ _ _ _ _ _ _ _ h0 hn hl hlen hlen1 hblk HP HP1
      · exact places_124 b cp _ _ _ _ _ _ _ _ _ _ _ _ _ _ _ _ _ _ _ _ h0 hn hl hlen hlen1 hblk HP HP1
      · exact places_85 b cp _ _ _ _ _ _ _ _ _ _ _ _ _ _ _ _ _ _ _ _ h0 hn hl hlen hlen1 hblk HP HP1
      · exact places_82 b cp _ _ _ _ _ _ _ _ _ _ _ _ _ _ _ _ _ _ _ _ h0 hn hl hlen hlen1 hblk HP HP1
      · exact places_87 b cp _ _ _ _ _ _ _ _ _ _ _ _ _ _ _ _ _ _ _ _ h0 hn hl hlen hlen1 hblk HP HP1
    | n + 3, k, ih, ho, hm, hv => exact False.elim ho
/-- The greatest values of a good model's variables. -/
def topsM (m : ByteArray) : List Nat := match qRead m with
  | (some (va, _), _) => topsA va
  | _ => []
theorem rForm_ok {m f : ByteArray} (h : (rForm m f).1 = 0) : (rCheck m).1 = 0 ∧ f.size ≤ 60 ∧ (∃ i, (qForm f).2.q = .ok i) ∧ ¬ (0 ≤ nmF (nvM m) (qForm f).1) ∧ ¬ (0 ≤ (qForm f).2.deep) ∧ (qForm f).2.wgt ≤ 4 ∧ (rForm m f).2 = 0 := by
  unfold rForm at h ⊢
  by_cases h0 : (rCheck m).1 ≠ 0
  · rw [if_pos h0] at h; exact absurd h h0
  · rw [if_neg h0] at h ⊢
    by_cases h1 : 60 < f.size
    · rw [if_pos h1] at h; cases h
    · rw [if_neg h1] at h ⊢
      unfold fErr at h ⊢
      cases hq : (qForm f).2.q with
      | error p => rw [hq] at h; cases h
      | ok i =>
        rw [hq] at h
        simp only at h ⊢
        by_cases h2 : 0 ≤ (qForm f).2.deep
        · rw [if_pos h2] at h; cases h
        · rw [if_neg h2] at h ⊢
          by_cases h3 : 0 ≤ nmF (nvM m) (qForm f).1
          · rw [if_pos h3] at h; cases h
          · rw [if_neg h3] at h ⊢
            by_cases h4 : 4 < (qForm f).2.wgt
            · rw [if_pos h4] at h; cases h
            · rw [if_neg h4]
              exact ⟨by omega, by omega, ⟨i, rfl⟩, h3, h2, by omega, rfl⟩
/-- What Holds answers. -/
def HoldD (m f : ByteArray) (L : List ByteArray) (loop : Int) (b : Bool) (c : Nat) (p : Int) : Prop :=
  ((rForm m f).1 ≠ 0 ∧ b = false ∧ c = (rForm m f).1 ∧ p = (rForm m f).2) ∨
  ((rForm m f).1 = 0 ∧ (c ≠ 0 ∧ b = false ∧ BndR (fun s => okT s (topsM m)) L loop c p ∨
    (L.length ≤ 7000 ∧ (∀ s ∈ L, okT s (topsM m)) ∧ ∃ k : Nat, k < L.length ∧ loop = (k : Int) ∧ c = 0 ∧ p = 0 ∧ b = at_ (plF f L k (qForm f).1) 0)))
set_option maxRecDepth 100000 in
set_option maxHeartbeats 1600000 in
theorem rholds_any (m f : ByteArray) (L : List ByteArray) (hL : ∀ s ∈ L, s.size ≤ maxLen) (hlen : L.length ≤ 9223372036854775807) (loop : Int) (v : Value) (w : World) (hm : m.size ≤ maxLen) (hr : Reads w v L) :
    Calls Tryz.prog 24 #[.string m, .string f, .agg #[v, .int .i64 loop]] w fun e w' => (∃ (b : Bool) (c : Nat) (p : Int), e = .returned (.tuple #[.bool b, .int .i64 c, .int .i64 p]) ∧ HoldD m f L loop b c p) ∧ Below w.heap.size w w' := by
  have HRD : Put (Reads w v L) := ⟨hr⟩
  obtain ⟨aoL, capL, rfl, _⟩ := hr
  have HL : Put (_) := ⟨hL⟩
  clear hL
  have HRF : Put (∀ w, Calls Tryz.prog 21 #[.string m, .string f] w fun e w' => e = .returned (.tuple #[.int .i64 ((rForm m f).1 : Nat), .int .i64 (rForm m f).2]) ∧ Below w.heap.size w w') := ⟨fun w => rform_any m f w hm⟩
  by_cases h0 : (rForm m f).1 = 0
  · obtain ⟨hck, hf60, ⟨iq, hiq⟩, hnm, _, _, hp0⟩ := rForm_ok h0
    obtain ⟨hle, va, ra, q', hq, hw⟩ := rCheck_ok hck
    rw [h0, hp0] at HRF
    have HQ : Put (qRead m = (some (va, ra), q')) := ⟨hq⟩
    have HW : Put ((wrongP va ra).1 = 0) := ⟨hw⟩
    have HNM : Put (¬ (0 ≤ nmF (nvM m) (qForm f).1)) := ⟨hnm⟩
    have HIQ : Put ((qForm f).2.q = .ok iq) := ⟨hiq⟩
    have HT : Put (topsM m = topsA va) := ⟨by unfold topsM; rw [hq]⟩
    have HV : Put (nvM m = va.length) := ⟨by unfold nvM; rw [hq]⟩
    have HH0 : Put ((rForm m f).1 = 0) := ⟨h0⟩
    clear hq hw hnm hiq h0 hp0 hck
    go_enter Tryz.func24, Tryz.ntmps24
    have hbx := heap_alloc_new w (.cells #[.slice aoL L.length capL, .int .i64 loop] 46)
    have HB0 : Put (Below w.heap.size w _) := ⟨(Below.refl _ _).alloc (Nat.le_refl _) (.cells #[.slice aoL L.length capL, .int .i64 loop] 46)⟩
    have HX0 : Put (_) := ⟨hbx⟩
    clear hbx
    go_wp2_with fail
    refine (HRF.out _).mono ?_
    rintro e w1 ⟨rfl, hb1⟩
    have HB1 : Put (Below w.heap.size w w1) := ⟨HB0.out.trans (hb1.mono HB0.out.size)⟩
    have HX1 : Put (_) := ⟨(hb1.block _ (lt_of_block HX0.out)).trans HX0.out⟩
    clear hb1 HB0 HX0 HRF
    go_wp2_with fail
    refine (rread_any hle HQ.out).mono ?_
    rintro e w2 ⟨⟨ao, aor, cap, capr, vs, rs, bad, rfl, hv, _, _, _, h3, h8, hfin⟩, hb2⟩
    rcases hfin with ⟨p, h1, _⟩ | ⟨h1, rfl, htied⟩
    · cases h1
    obtain ⟨rfl, rfl⟩ : va = vs.map V3.ast ∧ ra = rs.map R2.ast := by simpa using h1
    obtain ⟨_, _, htop, _⟩ := good_model HQ.out HW.out htied
    have e1 : topsA (vs.map V3.ast) = vs.map V3.top := by simp [topsA, V3.ast]
    have HT' : Put (topsM m = vs.map V3.top) := ⟨HT.out.trans e1⟩
    have HT3 : Put (∀ x ∈ vs.map V3.top, x ≤ 3) := ⟨fun x hx => by
      obtain ⟨v, hv, rfl⟩ := List.mem_map.1 hx
      exact (htop v hv).1.2⟩
    have HV' : Put (nvM m = vs.length) := ⟨by rw [HV.out]; simp⟩
    clear h1 htied htop e1 HQ HW HT HV
    obtain ⟨w3, hw3⟩ : ∃ w3, w3 = w2.alloc (.cells #[.slice ao vs.length cap, .slice aor rs.length capr] 65) := ⟨_, rfl⟩
    have hw3' := hw3.symm
    have hb12 : Below w.heap.size w w2 := HB1.out.trans (hb2.mono HB1.out.size)
    have hb23 : Below w2.heap.size w2 w3 := by rw [hw3]; exact (Below.refl _ _).alloc (Nat.le_refl _) _
    have HB3 : Put (Below w.heap.size w w3) := ⟨hb12.trans (hb23.mono hb12.size)⟩
    have bxm : w3.heap[w2.heap.size]? = some (.cells #[.slice ao vs.length cap, .slice aor rs.length capr] 65 (0, 0)) := by rw [hw3]; exact heap_alloc_new w2 _
    have HX3 : Put (w3.heap[w.heap.size]? = _) := ⟨(hb23.block _ (Nat.lt_of_lt_of_le (lt_of_block HX1.out) hb2.size)).trans ((hb2.block _ (lt_of_block HX1.out)).trans HX1.out)⟩
    have p0 := two_cell0 bxm
    have p1 := two_cell1 bxm
    have z0 := two_cell0 HX3.out
    have z1 := two_cell1 HX3.out
    have HBD : Put (_) := ⟨bound_any (w := w3) ao aor cap rs.length capr w1.heap.size vs h3 L HL.out hlen loop _ (HRD.out.below HB3.out) (hb23.ownsRow' hv)⟩
    clear hv bxm hb23 hb12 hw3 hb2
    go_wp2_with fail
    refine HBD.out.mono ?_
    rintro e w4 ⟨⟨c, p, rfl, hbd⟩, hb4⟩
    have HBR : Put (_) := ⟨hbd⟩
    have HB4 : Put (Below w.heap.size w w4) := ⟨HB3.out.trans (hb4.mono HB3.out.size)⟩
    have HX4 : Put (_) := ⟨(hb4.block _ (lt_of_block HX3.out)).trans HX3.out⟩
    clear hbd HBD hb4 p0 p1 hw3' z0 z1 HB3 HX3
    by_cases hc0 : c = 0
    · subst hc0
      rcases HBR.out with ⟨_, h, _⟩ | ⟨_, _, _, _, _, h, _⟩ | ⟨_, _, _, h, _⟩ | ⟨h7, hok, hl0, hl1, _, rfl⟩
      · cases h
      · cases h
      · cases h
      obtain ⟨k, rfl⟩ : ∃ k : Nat, loop = (k : Int) := ⟨loop.toNat, by omega⟩
      have hkl : k < L.length := by omega
      have HOK : Put (∀ st ∈ L, okT st (vs.map V3.top)) := ⟨hok⟩
      clear hok HBR hl0 hl1
      go_wp2_with fail
      refine (form_any (by omega)).mono ?_
      rintro e w5 ⟨B, P, _, _, _, hb5, o, a0, a1, a2, b0, b1, b2, g, p, l, c, rfl, hnv⟩
      have HNV : Put (_) := ⟨hnv⟩
      have HB5 : Put (Below w.heap.size w w5) := ⟨HB4.out.trans (hb5.mono HB4.out.size)⟩
      have HX5 : Put (_) := ⟨(hb5.block _ (lt_of_block HX4.out)).trans HX4.out⟩
      have HNl : Put (Below w5.heap.size w5 _) := ⟨(Below.refl _ _).alloc (Nat.le_refl _) (.cells #[.int .u8 o, .int .i64 a0, .int .i64 a1, .int .i64 a2, .int .i64 b0, .int .i64 b1, .int .i64 b2, .int .u8 g, .slice p l c] 90)⟩
      have z0 := two_cell0 HX5.out
      have z1 := two_cell1 HX5.out
      have lx := lt_of_block HX5.out
      have HPL : Put (_) := ⟨places_any f L k (vs.map V3.top) HT3.out h7 hkl HOK.out aoL capL (qForm f).1 w4.heap.size [.int .u8 o, .int .i64 a0, .int .i64 a1, .int .i64 a2, .int .i64 b0, .int .i64 b1, .int .i64 b2, .int .u8 g, .slice p l c] (w5.alloc (.cells #[.int .u8 o, .int .i64 a0, .int .i64 a1, .int .i64 a2, .int .i64 b0, .int .i64 b1, .int .i64 b2, .int .u8 g, .slice p l c] 90)) (qForm_ok f)
        (nm_of _ _ (qForm_ok f) (by rw [List.length_map, ← HV'.out]; have := HNM.out; omega)) ((HNV.out iq HIQ.out).keep (Nat.le_refl _) (fun k _ h2 => HNl.out.block k h2)) (HRD.out.below (HB5.out.trans (HNl.out.mono HB5.out.size)))⟩
      have HLn : Put ((plF f L k (qForm f).1).length = L.length) := ⟨plF_len f L k _ (qForm_ok f)⟩
      clear hnv hb5
      unfold PlPost at HPL
      go_wp2_with fail
      refine HPL.out.mono ?_
      rintro e w6 ⟨⟨v, rfl, hro⟩, hb6⟩
      obtain ⟨gh, ch, rfl, _, hgh, hch, hcH⟩ := bls_at hro (by rw [HLn.out]; omega)
      have q0 : w6.cell? ⟨gh, 0, none⟩ = some (.bool (at_ (plF f L k (qForm f).1) 0)) := by
        rw [hcH 0 (by rw [HLn.out]; omega), at_get (by rw [HLn.out]; omega)]
      have FIN : Put (HoldD m f L k (at_ (plF f L k (qForm f).1) 0) 0 0) := ⟨.inr ⟨HH0.out, .inr ⟨h7, by rw [HT'.out]; exact HOK.out, k, hkl, rfl, rfl, rfl, rfl⟩⟩⟩
      have HB6 : Put (Below w.heap.size w w6) := ⟨(HB5.out.trans (HNl.out.mono HB5.out.size)).trans (hb6.mono (Nat.le_trans HB5.out.size HNl.out.size))⟩
      have hl6 : 0 < (plF f L k (qForm f).1).length := by rw [HLn.out]; omega
      have hl6' : (0 : Int) < ((plF f L k (qForm f).1).length : Int) := by omega
      clear hro hb6 hcH HPL HNV HNl HX5 HX4 HOK HLn
      generalize at_ (plF f L k (qForm f).1) 0 = hb at *
      go_wp2_with fail
      refine bodyPost_ret (v := .tuple #[.bool hb, .int .i64 0, .int .i64 0]) (by simp [results, Tryz.results24, go_sem]) rfl ?_
      exact ⟨⟨hb, 0, 0, rfl, FIN.out⟩, HB6.out⟩
    · have hne : ((c : Int) == 0) = false := by simp; exact hc0
      have FIN : Put (HoldD m f L loop false c p) := ⟨.inr ⟨HH0.out, .inl ⟨hc0, rfl, by rw [HT'.out]; exact HBR.out⟩⟩⟩
      clear HBR
      go_wp2
      refine bodyPost_ret (v := .tuple #[.bool false, .int .i64 c, .int .i64 p]) (by simp [results, Tryz.results24, go_sem]) rfl ?_
      exact ⟨⟨false, c, p, rfl, FIN.out⟩, HB4.out⟩
  · have hne : (((rForm m f).1 : Int) == 0) = false := by simp; exact h0
    have FIN : Put (HoldD m f L loop false (rForm m f).1 (rForm m f).2) := ⟨.inl ⟨h0, rfl, rfl, rfl⟩⟩
    clear h0
    generalize (rForm m f).1 = a at *
    generalize (rForm m f).2 = b at *
    have HB0 : Put (Below w.heap.size w _) := ⟨(Below.refl _ _).alloc (Nat.le_refl _) (.cells #[.slice aoL L.length capL, .int .i64 loop] 46)⟩
    go_enter Tryz.func24, Tryz.ntmps24
    go_wp2_with fail
    refine (HRF.out _).mono ?_
    rintro e w1 ⟨rfl, hb1⟩
    have HB1 : Put (Below w.heap.size w w1) := ⟨HB0.out.trans (hb1.mono HB0.out.size)⟩
    clear hb1 HB0 HRF
    go_wp2
    refine bodyPost_ret (v := .tuple #[.bool false, .int .i64 a, .int .i64 b]) (by simp [results, Tryz.results24, go_sem]) rfl ?_
    exact ⟨⟨false, a, b, rfl, FIN.out⟩, HB1.out⟩
end Go.Proofs.YtgoebckimmofoaaGreatDoor

/- The code's reader of formulas and the document's: how they are held together. Our own text: no walk in it. -/
namespace Go.Proofs.YtgoebckimmofoaaGreatDoor
open Go.RowKit Go.Lib

/-- What is made of a formula, behind these parts. -/
def tr (s : ByteArray) : Fm → List Pt → G × List Pt
  | ⟨o, c, 0, _⟩, ps => (fun x _ => if o = 84 then true else cdP s c x, ps)
  | ⟨o, _, 1, k⟩, ps => bld o (fun _ _ => true) (tr s (k 0) ps).1 (tr s (k 0) ps).2
  | ⟨o, _, 2, k⟩, ps => bld o (tr s (k 0) ps).1 (tr s (k 1) (tr s (k 0) ps).2).1 (tr s (k 1) (tr s (k 0) ps).2).2
  | ⟨_, _, _ + 3, _⟩, ps => (fun _ _ => false, ps)
theorem fin_no {c : C} {l : ByteArray} (h : waitsP l c.st = false) : c.fin l = c := by
  cases c with
  | mk t opn deep st ps g sg =>
    cases st with
    | nil => rfl
    | cons e st =>
      have h' : inS l e.1 = false := h
      simp [C.fin, endP, h']
theorem fin_yes {c : C} {l : ByteArray} {e : Nat × G} {st : List (Nat × G)} (hs : c.st = e :: st) (h : inS l e.1 = true) : c.fin l = ({ c with st := st, g := (bld e.1 e.2 c.g c.ps).1, ps := (bld e.1 e.2 c.g c.ps).2 } : C).fin l := by
  cases c with
  | mk t opn deep st' ps g sg =>
    simp only at hs
    subst hs
    simp [C.fin, endP, h]

/-- How many signs of time wait. -/
def pend : List (Nat × G) → Nat
  | [] => 0
  | e :: st => wt e.1 + pend st
/-- The document's reader and the code's stand at the same place. -/
structure Rel (s : ByteArray) (x : FSt) (c : C) : Prop where
  q : x.q = .ok c.t.at_
  o : x.opn = c.opn
  d : x.deep = -1 ∧ c.deep = 0 ∨ x.deep = (c.deep : Int) ∧ 0 < c.deep
  g : x.wgt = c.ps.length + pend c.st
  le : c.t.at_ ≤ s.size
  inv : Inv c.t
  ol : c.opn ≤ c.t.at_
/-- The first name that no variable has. -/
def nmO (n : Nat) (φ : Fm) : Option (Nat × Int) := if 0 ≤ nmF n φ then some (3, nmF n φ) else none
/-- What has come of a formula that was read. -/
structure Out (s : ByteArray) (c : C) (φ : Fm) (c' : C) : Prop where
  g : c'.g = (tr s φ c.ps).1
  ps : c'.ps = (tr s φ c.ps).2
  st : c'.st = c.st
  n : c'.t.n = c.t.n
  fl : fl c'.t = (fl c.t).or (nmO c.t.n φ)
  lt : c.t.at_ < c'.t.at_
/-- A formula is read from the label 'one' on: it ends in an error, or F goes on. -/
def Ends (s : ByteArray) (r : Fm × FSt) (c : C) (F : Nat → C → Bool × C) (d : Nat) : Prop := match r.2.q with
  | .error p => ∀ k, Mz s 0 c ≤ k → ∃ cf, fRun s k 0 c = (false, cf) ∧ cf.t.at_ = p
  | .ok _ => ∃ c', Rel s r.2 c' ∧ Out s c r.1 c' ∧ ∀ k, Mz s 0 c ≤ k → ∃ k', 2 * (s.size - c'.t.at_) + d ≤ k' ∧ fRun s k 0 c = F k' c'
def F0 (s : ByteArray) (k : Nat) (c : C) : Bool × C := fRun s k 1 c
def F1 (s : ByteArray) (k : Nat) (c : C) : Bool × C := fRun s k 2 c
def F2 (s : ByteArray) (k : Nat) (c : C) : Bool × C := stA s (fRun s k) c
def F3 (s : ByteArray) (k : Nat) (c : C) : Bool × C := stB s (fRun s k) c
/-- A way that begins with some steps ahead of 'one'. -/
theorem Ends.pre {s : ByteArray} {r : Fm × FSt} {c c1 : C} {F : Nat → C → Bool × C} {d : Nat} {p : Nat} (h : Ends s r c1 F d) (hq : r.2.q = .error p) (hk : ∀ k, Mz s 0 c ≤ k → ∃ k', Mz s 0 c1 ≤ k' ∧ fRun s k 0 c = fRun s k' 0 c1) {r' : Fm × FSt} {F' : Nat → C → Bool × C} {d' : Nat} (hq' : r'.2.q = .error p) : Ends s r' c F' d' := by
  unfold Ends at h ⊢
  rw [hq] at h
  rw [hq']
  intro k hk0
  obtain ⟨k', h1, h2⟩ := hk k hk0
  rw [h2]
  exact h k' h1
theorem is_num {s : ByteArray} {i c : Nat} (h : isC s (.ok i) c = true) : ∃ k, num? s i c 0 0 = some k := isC_some h
theorem not_num {s : ByteArray} {i c : Nat} (h : isC s (.ok i) c = false) : num? s i c 0 0 = none := isC_none h
theorem byte_is {s : ByteArray} {i c : Nat} (hc : c < 256) (h : isC s (.ok i) c = true) : ∃ hl : i < s.size, s[i] = UInt8.ofNat c := by
  obtain ⟨k, hk⟩ := is_num h
  obtain ⟨hl, he⟩ := num_is hk
  exact ⟨hl, u8_is hc he⟩
theorem byte_not {s : ByteArray} {i c : Nat} (h : isC s (.ok i) c = false) (hl : i < s.size) : s[i].toNat ≠ c := num_not (not_num h) hl
theorem one_is {s : ByteArray} {i c : Nat} {l : ByteArray} (hc : c < 256) (h : isC s (.ok i) c = true) (hin : inS l c = true) : oneOf? s i l.data.toList = some c := by
  obtain ⟨hl, e⟩ := byte_is hc h
  unfold oneOf?
  rw [dif_pos hl]
  have : s[i] ∈ l.data.toList := by rw [e]; simpa [inS] using hin
  rw [if_pos this, e]
  simp; omega
theorem num_else {s : ByteArray} {i c c' : Nat} (hc : c < 256) (h : isC s (.ok i) c = true) (hne : c ≠ c') : num? s i c' 0 0 = none := by
  obtain ⟨hl, e⟩ := byte_is hc h
  unfold num?
  rw [dif_pos hl, if_neg]
  rw [e]
  simp
  omega
theorem one_else {s : ByteArray} {i : Nat} {l : ByteArray} (h : ∀ u ∈ l.data.toList, isC s (.ok i) u.toNat = false) : oneOf? s i l.data.toList = none := by
  unfold oneOf?
  split
  · next hl =>
    rw [if_neg]
    intro hm
    exact byte_not (h _ hm) hl rfl
  · rfl
/-- A sign, and what is left behind it. -/
theorem step_push {s : ByteArray} {c : C} {o : Nat} (hle : c.t.at_ < s.size) (h : ∀ k, fRun s (k + 1) 0 c = fRun s k 3 (c.sign o)) : ∀ k, Mz s 0 c ≤ k → ∃ k', Mz s 0 (c.sign o).push ≤ k' ∧ fRun s k 0 c = fRun s k' 0 (c.sign o).push := by
  intro k hk
  unfold Mz at *
  obtain ⟨k', rfl⟩ : ∃ k', k = k' + 2 := ⟨k - 2, by simp at hk; omega⟩
  refine ⟨k', ?_, ?_⟩
  · show 2 * (s.size - (c.t.at_ + 1)) + 1 + 0 % 2 ≤ k'
    omega
  · rw [h (k' + 1)]; rfl
end Go.Proofs.YtgoebckimmofoaaGreatDoor

/- What a formula says of states without an end, and the document's places. Our own text. -/
namespace Go.Proofs.YtgoebckimmofoaaGreatDoor
open Go.RowKit Go.Lib
/-- The place of a lasso at a time. -/
def plc (n loop : Nat) : Nat → Nat
  | 0 => 0
  | t + 1 => nxt n loop (plc n loop t)
section
variable {n loop : Nat} {a b : Nat → Bool} {wk : Bool}
end
/-- A formula holds at a time; S: which conditions do. -/
def sm (S : Nat → (Tm × Tm) → Bool) : Fm → Nat → Prop
  | ⟨o, c, 0, _⟩, t => o = 84 ∨ S t c = true
  | ⟨o, _, 1, k⟩, t =>
    if o = 70 then ∃ j, t ≤ j ∧ sm S (k 0) j
    else if o = 71 then ∀ j, t ≤ j → sm S (k 0) j
    else if o = 33 then ¬ sm S (k 0) t
    else sm S (k 0) (t + 1)
  | ⟨o, _, 2, k⟩, t =>
    if o = 85 then ∃ j, t ≤ j ∧ sm S (k 1) j ∧ ∀ i, t ≤ i → i < j → sm S (k 0) i
    else if o = 87 then (∃ j, t ≤ j ∧ sm S (k 1) j ∧ ∀ i, t ≤ i → i < j → sm S (k 0) i) ∨ ∀ j, t ≤ j → sm S (k 0) j
    else if o = 82 then (∃ j, t ≤ j ∧ (sm S (k 0) j ∧ sm S (k 1) j) ∧ ∀ i, t ≤ i → i < j → sm S (k 1) i) ∨ ∀ j, t ≤ j → sm S (k 1) j
    else if o = 38 then sm S (k 0) t ∧ sm S (k 1) t
    else sm S (k 0) t ∨ sm S (k 1) t
  | ⟨_, _, _ + 3, _⟩, _ => False
theorem at_lt {l : List Bool} {k : Nat} (h : k < l.length) : at_ l k = l[k] := (at_get h).symm
theorem at_untL {A B : List Bool} {loop : Nat} {wk : Bool} {k : Nat} (h : k < A.length) : at_ (untL A B loop wk) k = unt A.length loop (at_ A) (at_ B) wk A.length k := by
  rw [at_lt (by rw [untL_len]; exact h)]
  simp [untL]
theorem at_rep {n k : Nat} {x : Bool} (h : k < n) : at_ (List.replicate n x) k = x := by
  rw [at_lt (by simpa using h)]; simp
theorem at_meet {A B : List Bool} {k : Nat} (h : k < A.length) (h' : k < B.length) : at_ (meetL A B) k = (at_ A k && at_ B k) := by
  rw [at_lt (by simp [meetL]; omega), at_lt h, at_lt h']; simp [meetL]
end Go.Proofs.YtgoebckimmofoaaGreatDoor

/- Marks on a lasso: going back over it twice settles each part. Our own text: no walk in it. -/
namespace Go.Proofs.YtgoebckimmofoaaGreatDoor
open Go.RowKit Go.Lib

/-- The first parts' bits are right. -/
structure BR (X : List Nat) (pv : List (List Bool)) (P : List Pl) : Prop where
  len : P.length = X.length
  st : ∀ i, i < X.length → (pl P i).1 = X.getD i 0
  lt : ∀ i, i < X.length → (pl P i).2 < 256
  bit : ∀ i, i < X.length → ∀ k, k < pv.length → (pl P i).2.testBit k = at_ (pv.getD k []) i
/-- Marking the parts in their order makes their bits right. -/
def GoodP (X : List Nat) (loop : Nat) (ps : List Pt) (pv : List (List Bool)) : Prop :=
  ps.length = pv.length ∧ ∀ k (hk : k < ps.length), k < 8 → ∀ P, BR X (pv.take k) P → BR X (pv.take (k + 1)) (markP ps[k] k P loop)
/-- What is made of a formula says what the formula does. -/
def SaysG (X : List Nat) (pv : List (List Bool)) (R : List Bool) (g : G) : Prop := Dep pv.length g ∧ ∀ P, BR X pv P → ∀ i, i < X.length → g (pl P i).1 (pl P i).2 = at_ R i
section
variable {X : List Nat} {loop : Nat} {ps : List Pt} {pv : List (List Bool)} {f g : G} {R A B : List Bool}
theorem BR.take {pw : List (List Bool)} {P : List Pl} (h : BR X (pv ++ pw) P) : BR X pv P :=
  ⟨h.len, h.st, h.lt, fun i hi k hk => by rw [h.bit i hi k (by simp; omega)]; simp [List.getD_eq_getElem?_getD, List.getElem?_append_left hk]⟩
theorem SaysG.more {pw : List (List Bool)} (h : SaysG X pv R g) : SaysG X (pv ++ pw) R g := ⟨h.1.mono (by simp), fun P hP => h.2 P hP.take⟩
theorem BR.snoc {v : List Bool} {P Q : List Pl} (h : BR X pv P) (ho : Off pv.length P Q) (hb : ∀ i, i < X.length → (pl Q i).2.testBit pv.length = at_ v i) : BR X (pv ++ [v]) Q := by
  refine ⟨ho.len.trans h.len, fun i hi => (ho.st i (by rw [h.len]; exact hi)).trans (h.st i hi), fun i hi => ho.lt i (by rw [h.len]; exact hi), fun i hi k hk => ?_⟩
  by_cases e : k = pv.length
  · subst e
    rw [hb i hi]; simp [List.getD_eq_getElem?_getD]
  · have hk' : k < pv.length := by simp at hk; omega
    rw [ho.bit i (by rw [h.len]; exact hi) k e, h.bit i hi k hk']
    simp [List.getD_eq_getElem?_getD, List.getElem?_append_left hk']
theorem GoodP.snoc {p : Pt} {v : List Bool} (h : GoodP X loop ps pv) (hp : pv.length < 8 → ∀ P, BR X pv P → BR X (pv ++ [v]) (markP p pv.length P loop)) : GoodP X loop (ps ++ [p]) (pv ++ [v]) := by
  refine ⟨by simp [h.1], fun k hk h8 P hP => ?_⟩
  by_cases e : k = ps.length
  · subst e
    have e1 : (pv ++ [v]).take ps.length = pv := by rw [h.1]; simp
    have e2 : (pv ++ [v]).take (ps.length + 1) = pv ++ [v] := List.take_of_length_le (by simp [h.1])
    rw [e1] at hP
    rw [e2]
    have := hp (by rw [← h.1]; exact h8) P hP
    rw [← h.1] at this
    simpa using this
  · have hk' : k < ps.length := by simp at hk; omega
    have e1 : (pv ++ [v]).take k = pv.take k := by rw [List.take_append_of_le_length (by rw [← h.1]; omega)]
    have e2 : (pv ++ [v]).take (k + 1) = pv.take (k + 1) := by rw [List.take_append_of_le_length (by rw [← h.1]; omega)]
    rw [e1] at hP
    rw [e2, List.getElem_append_left hk']
    exact h.2 k hk' h8 P hP
theorem says_new {v : List Bool} : SaysG X (pv ++ [v]) v (fun _ b => b.testBit pv.length) :=
  ⟨fun x b b' hb => hb _ (by simp), fun P hP i hi => by
    show (pl P i).2.testBit pv.length = _
    rw [hP.bit i hi _ (by simp)]; simp [List.getD_eq_getElem?_getD]⟩
theorem good_putOff (hX : loop < X.length) (h : GoodP X loop ps pv) (hf : SaysG X pv A f) (hg : SaysG X pv B g) (hA : A.length = X.length) (e : Bool) :
    GoodP X loop (putOff f g e ps).2 (pv ++ [untL A B loop e]) ∧ SaysG X (pv ++ [untL A B loop e]) (untL A B loop e) (putOff f g e ps).1 := by
  constructor
  · refine h.snoc (fun h8 P hP => ?_)
    have hl : ∀ i, i < P.length → (pl P i).2 < 256 := fun i hi => hP.lt i (by rw [← hP.len]; exact hi)
    have hlo : loop < P.length := by rw [hP.len]; exact hX
    refine hP.snoc (mark_off h8 hl hlo _) (fun i hi => ?_)
    have hi' : i < P.length := by rw [hP.len]; exact hi
    rw [mark_putOff (f := f) (g := g) h8 hl hlo hf.1 hg.1 (fun x b x' b' => by simp only [h.1]) hi', at_untL (by rw [hA]; exact hi), hA, hP.len]
    have ca : ∀ k, k < X.length → f (pl P k).1 (pl P k).2 = at_ A k := hf.2 P hP
    have cb : ∀ k, k < X.length → g (pl P k).1 (pl P k).2 = at_ B k := hg.2 P hP
    have key : ∀ (m k : Nat), k < X.length → unt X.length loop (fun i => f (pl P i).1 (pl P i).2) (fun i => g (pl P i).1 (pl P i).2) e m k = unt X.length loop (at_ A) (at_ B) e m k := by
      intro m
      induction m with
      | zero => intro k hk; rw [unt0, unt0, cb k hk]
      | succ m ih =>
        intro k hk
        rw [unt1, unt1, ca k hk, cb k hk, ih _ (by unfold nxt; split <;> omega)]
    exact key _ _ hi
  · have := says_new (X := X) (pv := pv) (v := untL A B loop e)
    unfold putOff
    simp only [h.1]
    exact this
theorem good_next (hX : loop < X.length) (h : GoodP X loop ps pv) (hg : SaysG X pv B g) (R : List Bool) (hR : ∀ i, i < X.length → at_ R i = at_ B (nxt X.length loop i)) (z : G) :
    GoodP X loop (ps ++ [⟨fun _ _ x' b' => g x' b', false, z⟩]) (pv ++ [R]) ∧ SaysG X (pv ++ [R]) R (fun _ b => b.testBit ps.length) := by
  constructor
  · refine h.snoc (fun h8 P hP => ?_)
    have hl : ∀ i, i < P.length → (pl P i).2 < 256 := fun i hi => hP.lt i (by rw [← hP.len]; exact hi)
    have hlo : loop < P.length := by rw [hP.len]; exact hX
    refine hP.snoc (mark_off h8 hl hlo _) (fun i hi => ?_)
    have hi' : i < P.length := by rw [hP.len]; exact hi
    rw [mark_next (g := g) h8 hl hlo hg.1 (fun x b x' b' => rfl) hi', hP.len, hR i hi]
    exact hg.2 P hP _ (by unfold nxt; split <;> omega)
  · rw [h.1]; exact says_new
end
/-- The parts of a formula, and itself, on a lasso. -/
theorem tr_says (s : ByteArray) (L : List ByteArray) (X : List Nat) (loop nv : Nat) (hXL : X.length = L.length) (hl : loop < L.length)
    (hc : ∀ (c : Tm × Tm), PC c → c.1.1 < (nv : Int) ∧ c.2.1 < (nv : Int) → ∀ i (hi : i < L.length), cdP s c (X.getD i 0) = soS s c L[i]) : ∀ (φ : Fm), φ.Ok → φ.Nm nv → ∀ (ps : List Pt) (pv : List (List Bool)), GoodP X loop ps pv →
      ∃ pw, GoodP X loop (tr s φ ps).2 (pv ++ pw) ∧ SaysG X (pv ++ pw) (plF s L loop φ) (tr s φ ps).1
  | ⟨o, c, 0, k⟩, ho, hm, ps, pv, h => by
    refine ⟨[], by rw [List.append_nil]; exact h, ?_⟩
    rw [List.append_nil]
    refine ⟨fun x b b' _ => rfl, fun P hP i hi => ?_⟩
    have hi' : i < L.length := by rw [← hXL]; exact hi
    rw [at_lt (by rw [plF_len _ _ _ _ ho]; exact hi')]
    show (if o = 84 then true else cdP s c (pl P i).1) = _
    simp only [plF, List.getElem_map]
    rcases ho with rfl | ⟨rfl, hpc⟩
    · rfl
    · rw [if_neg (by omega), if_neg (by omega), hP.st i hi]
      exact hc c hpc (hm rfl) i hi'
  | ⟨o, c, 1, k⟩, ho, hm, ps, pv, h => by
    have hX : loop < X.length := by rw [hXL]; exact hl
    obtain ⟨pw, h1, h2⟩ := tr_says s L X loop nv hXL hl hc (k 0) ho.2 hm ps pv h
    have hlen := plF_len s L loop (k 0) ho.2
    rcases ho.1 with rfl | rfl | rfl | rfl
    · refine ⟨pw, h1, fun x b b' hb => ?_, fun P hP i hi => ?_⟩
      · show (!(tr s (k 0) ps).1 x b) = (!(tr s (k 0) ps).1 x b')
        rw [h2.1 x b b' hb]
      · show (!(tr s (k 0) ps).1 (pl P i).1 (pl P i).2) = at_ ((plF s L loop (k 0)).map (fun x => !x)) i
        rw [h2.2 P hP i hi, at_lt (by rw [hlen, ← hXL]; exact hi), at_lt (by rw [List.length_map, hlen, ← hXL]; exact hi)]
        simp
    · have := good_next hX h1 h2 (plF s L loop ⟨88, c, 1, k⟩) (fun i hi => by
        rw [at_lt (by rw [plF_len _ _ _ _ ho, ← hXL]; exact hi)]
        simp [plF, hXL]) (fun _ _ => true)
      rw [List.append_assoc] at this
      exact ⟨_, this⟩
    · have ht : SaysG X (pv ++ pw) (List.replicate L.length true) (fun _ _ => true) := ⟨fun _ _ _ _ => rfl, fun P _ i hi => by rw [at_rep (by rw [← hXL]; exact hi)]⟩
      have := good_putOff hX h1 ht h2 (by simp [hXL]) false
      rw [List.append_assoc] at this
      exact ⟨_, this⟩
    · have ht : SaysG X (pv ++ pw) (List.replicate L.length false) (fun _ _ => false) := ⟨fun _ _ _ _ => rfl, fun P _ i hi => by rw [at_rep (by rw [← hXL]; exact hi)]⟩
      have := good_putOff hX h1 h2 ht (by rw [hlen, hXL]) true
      rw [List.append_assoc] at this
      exact ⟨_, this⟩
  | ⟨o, c, 2, k⟩, ho, hm, ps, pv, h => by
    have hX : loop < X.length := by rw [hXL]; exact hl
    obtain ⟨pw, h1, h2⟩ := tr_says s L X loop nv hXL hl hc (k 0) ho.2.1 hm.1 ps pv h
    obtain ⟨pu, h3, h4⟩ := tr_says s L X loop nv hXL hl hc (k 1) ho.2.2 hm.2 _ _ h1
    have h2' := h2.more (pw := pu)
    have hlen := plF_len s L loop (k 0) ho.2.1
    have hlen1 := plF_len s L loop (k 1) ho.2.2
    have hmeet : SaysG X ((pv ++ pw) ++ pu) (meetL (plF s L loop (k 0)) (plF s L loop (k 1))) (fun x b => (tr s (k 0) ps).1 x b && (tr s (k 1) (tr s (k 0) ps).2).1 x b) := by
      refine ⟨fun x b b' hb => ?_, fun P hP i hi => ?_⟩
      · show ((tr s (k 0) ps).1 x b && (tr s (k 1) (tr s (k 0) ps).2).1 x b) = ((tr s (k 0) ps).1 x b' && (tr s (k 1) (tr s (k 0) ps).2).1 x b')
        rw [h2'.1 x b b' hb, h4.1 x b b' hb]
      show ((tr s (k 0) ps).1 (pl P i).1 (pl P i).2 && (tr s (k 1) (tr s (k 0) ps).2).1 (pl P i).1 (pl P i).2) = _
      rw [h2'.2 P hP i hi, h4.2 P hP i hi, at_meet (by rw [hlen, ← hXL]; exact hi) (by rw [hlen1, ← hXL]; exact hi)]
    rcases ho.1 with rfl | rfl | rfl | rfl | rfl
    · rw [List.append_assoc] at h3 hmeet
      exact ⟨_, h3, hmeet⟩
    · rw [List.append_assoc] at h3 h4 h2'
      refine ⟨_, h3, fun x b b' hb => ?_, fun P hP i hi => ?_⟩
      · show ((tr s (k 0) ps).1 x b || (tr s (k 1) (tr s (k 0) ps).2).1 x b) = ((tr s (k 0) ps).1 x b' || (tr s (k 1) (tr s (k 0) ps).2).1 x b')
        rw [h2'.1 x b b' hb, h4.1 x b b' hb]
      · show ((tr s (k 0) ps).1 (pl P i).1 (pl P i).2 || (tr s (k 1) (tr s (k 0) ps).2).1 (pl P i).1 (pl P i).2) = at_ (List.zipWith (fun a b => a || b) (plF s L loop (k 0)) (plF s L loop (k 1))) i
        rw [h2'.2 P hP i hi, h4.2 P hP i hi, at_lt (by rw [hlen, ← hXL]; exact hi), at_lt (by rw [hlen1, ← hXL]; exact hi), at_lt (by simp [hlen, hlen1, ← hXL]; exact hi)]
        simp
    · have := good_putOff hX h3 h2' h4 (by rw [hlen, hXL]) false
      rw [List.append_assoc, List.append_assoc] at this
      exact ⟨_, this⟩
    · have := good_putOff hX h3 h4 hmeet (by rw [hlen1, hXL]) true
      rw [List.append_assoc, List.append_assoc] at this
      exact ⟨_, this⟩
    · have := good_putOff hX h3 h2' h4 (by rw [hlen, hXL]) true
      rw [List.append_assoc, List.append_assoc] at this
      exact ⟨_, this⟩
  | ⟨_, _, _ + 3, _⟩, ho, _, _, _, _ => False.elim ho
/-- All parts marked. -/
theorem marks_right {X : List Nat} {loop : Nat} {ps : List Pt} {pv : List (List Bool)} (h : GoodP X loop ps pv) (h8 : ps.length ≤ 8) : ∀ (k : Nat) (P : List Pl), k ≤ ps.length → BR X (pv.take k) P → BR X pv (marksP (ps.drop k) k P loop) := by
  intro k
  obtain ⟨d, hd⟩ : ∃ d, d = ps.length - k := ⟨_, rfl⟩
  induction d generalizing k with
  | zero =>
    intro P hk hP
    rw [List.drop_of_length_le (by omega)]
    rw [List.take_of_length_le (by rw [← h.1]; omega)] at hP
    exact hP
  | succ d ih =>
    intro P hk hP
    have hk' : k < ps.length := by omega
    rw [List.drop_eq_getElem_cons hk']
    exact ih (k + 1) (by omega) _ hk' (h.2 k hk' (by omega) P hP)
/-- The code's way of holding. -/
def holdP (ps : List Pt) (g : G) (X : List Nat) (loop : Nat) : Bool :=
  let P := marksP ps 0 (X.map (fun x => (x, 0))) loop
  g (pl P 0).1 (pl P 0).2
theorem hold_same (s : ByteArray) (L : List ByteArray) (X : List Nat) (loop nv : Nat) (hXL : X.length = L.length) (hl : loop < L.length)
    (hc : ∀ (c : Tm × Tm), PC c → c.1.1 < (nv : Int) ∧ c.2.1 < (nv : Int) → ∀ i (hi : i < L.length), cdP s c (X.getD i 0) = soS s c L[i]) (φ : Fm) (ho : φ.Ok) (hm : φ.Nm nv) (h8 : (tr s φ []).2.length ≤ 8) :
    holdP (tr s φ []).2 (tr s φ []).1 X loop = at_ (plF s L loop φ) 0 := by
  obtain ⟨pw, h1, h2⟩ := tr_says s L X loop nv hXL hl hc φ ho hm [] [] ⟨rfl, fun k hk => absurd hk (Nat.not_lt_zero _)⟩
  rw [List.nil_append] at h1 h2
  have h0 : BR X (pw.take 0) (X.map (fun x => (x, 0))) := by
    have hp : ∀ i, i < X.length → pl (X.map (fun x => (x, 0))) i = (X.getD i 0, 0) := fun i hi => by
      unfold pl; simp [List.getD_eq_getElem?_getD, hi]
    refine ⟨by simp, fun i hi => by rw [hp i hi], fun i hi => by rw [hp i hi]; show 0 < 256; omega, fun i hi k hk => by simp at hk⟩
  have := marks_right h1 h8 0 _ (Nat.zero_le _) h0
  rw [List.drop_zero] at this
  exact h2.2 _ this 0 (by omega)
end Go.Proofs.YtgoebckimmofoaaGreatDoor

/- On which bits a part hangs. Our own text: no walk in it. -/
namespace Go.Proofs.YtgoebckimmofoaaGreatDoor
open Go.RowKit Go.Lib
/-- Of the place itself a part asks the elder parts alone. -/
def InP (ps : List Pt) : Prop := ∀ (k : Nat) (p : Pt), ps[k]? = some p → ∀ x b b2 x' b' : Nat, (∀ j, j < k → b.testBit j = b2.testBit j) → p.h x b x' b' = p.h x b2 x' b'
/-- So a list of parts, and a formula over it. -/
def DP (n : Nat) (r : G × List Pt) : Prop := InP r.2 ∧ Dep r.2.length r.1 ∧ n ≤ r.2.length
theorem InP.snoc {ps : List Pt} (h : InP ps) {p : Pt} (hp : ∀ x b b2 x' b', (∀ j, j < ps.length → b.testBit j = b2.testBit j) → p.h x b x' b' = p.h x b2 x' b') : InP (ps ++ [p]) := by
  intro k q hq
  rcases Nat.lt_trichotomy k ps.length with hk | rfl | hk
  · rw [List.getElem?_append_left hk] at hq
    exact h k q hq
  · simp at hq
    subst hq
    exact hp
  · rw [List.getElem?_eq_none (by simp; omega)] at hq
    cases hq
section
variable {ps : List Pt} {f g : G}
theorem dep_bit (n : Nat) : Dep (n + 1) (fun _ b => b.testBit n) := fun _ _ _ hb => hb n (Nat.lt_succ_self n)
theorem putOff_dp (h : InP ps) (hf : Dep ps.length f) (hg : Dep ps.length g) (e : Bool) : DP ps.length (putOff f g e ps) := by
  refine ⟨h.snoc (fun x b b2 x' b' hb => ?_), ?_, ?_⟩
  · show (g x b || (f x b && _)) = (g x b2 || (f x b2 && _))
    rw [hf x b b2 hb, hg x b b2 hb]
  · show Dep (ps ++ [_]).length _
    rw [List.length_append]
    exact dep_bit _
  · show ps.length ≤ (ps ++ [_]).length
    simp
theorem bld_dp (o : Nat) (h : InP ps) (hf : Dep ps.length f) (hg : Dep ps.length g) : DP ps.length (bld o f g ps) := by
  have hc : ∀ (v : Bool), Dep ps.length (fun _ _ => v) := fun _ _ _ _ _ => rfl
  have hand : Dep ps.length (fun x b => f x b && g x b) := fun x b b' hb => by show (f x b && g x b) = (f x b' && g x b'); rw [hf x b b' hb, hg x b b' hb]
  unfold bld
  split
  · exact ⟨h, fun x b b' hb => by show (!g x b) = !g x b'; rw [hg x b b' hb], Nat.le_refl _⟩
  split
  · exact ⟨h, hand, Nat.le_refl _⟩
  split
  · exact ⟨h, fun x b b' hb => by show (f x b || g x b) = (f x b' || g x b'); rw [hf x b b' hb, hg x b b' hb], Nat.le_refl _⟩
  split
  · refine ⟨h.snoc (fun x b b2 x' b' _ => rfl), ?_, ?_⟩
    · show Dep (ps ++ [_]).length _
      rw [List.length_append]
      exact dep_bit _
    · show ps.length ≤ (ps ++ [_]).length
      simp
  split
  · exact putOff_dp h (hc true) hg _
  split
  · exact putOff_dp h hg (hc false) _
  split
  · exact putOff_dp h hf hg _
  split
  · exact putOff_dp h hg hand _
  · exact putOff_dp h hf hg _
end
theorem tr_dp (s : ByteArray) : ∀ (φ : Fm) (ps : List Pt), InP ps → DP ps.length (tr s φ ps)
  | ⟨_, _, 0, _⟩, _, h => ⟨h, fun _ _ _ _ => rfl, Nat.le_refl _⟩
  | ⟨o, c, 1, k⟩, ps, h => by
    obtain ⟨h1, h2, h3⟩ := tr_dp s (k 0) ps h
    obtain ⟨h4, h5, h6⟩ := bld_dp (f := fun _ _ => true) o h1 (fun _ _ _ _ => rfl) h2
    exact ⟨h4, h5, Nat.le_trans h3 h6⟩
  | ⟨o, c, 2, k⟩, ps, h => by
    obtain ⟨h1, h2, h3⟩ := tr_dp s (k 0) ps h
    obtain ⟨k1, k2, k3⟩ := tr_dp s (k 1) _ h1
    obtain ⟨h4, h5, h6⟩ := bld_dp o k1 (h2.mono k3) k2
    exact ⟨h4, h5, Nat.le_trans h3 (Nat.le_trans k3 h6)⟩
  | ⟨_, _, _ + 3, _⟩, _, h => ⟨h, fun _ _ _ _ => rfl, Nat.le_refl _⟩
theorem tr_in (s : ByteArray) (φ : Fm) : InP (tr s φ []).2 := (tr_dp s φ [] (fun k p hp => by simp at hp)).1
theorem InP.hd {ps : List Pt} (h : InP ps) {n : Nat} {p : Pt} (hp : ps[n]? = some p) : ∀ x b b2 x' b', (∀ j, j ≠ n → b.testBit j = b2.testBit j) → p.h x b x' b' = p.h x b2 x' b' :=
  fun x b b2 x' b' hb => h n p hp x b b2 x' b' (fun j hj => hb j (by omega))
end Go.Proofs.YtgoebckimmofoaaGreatDoor
