import Derived.Test.YtgoebckimmofoaaDoorP23
import Derived.Test.YtgoebckimmofoaaDoorP13
/- The document's Run. Our own text. -/
namespace Go.Proofs.YtgoebckimmofoaaDoor
open Go.RowKit Go.Lib

def folT (tops : List Nat) (rs : List R2) (s t : ByteArray) : Bool := folF tops (dgs s) (dgs t) rs true
/-- The first that may not stand where it does, among texts. -/
def strayG (F : ByteArray → ByteArray → Bool) : (ByteArray → Bool) → Nat → List ByteArray → Option Nat
  | _, _, [] => none
  | P, i, y :: l => if P y then strayG F (F y) (i + 1) l else some i
theorem drop_app (L : List ByteArray) (x : ByteArray) (i : Nat) (h : i < L.length) : (L ++ [x]).drop i = L[i] :: (L ++ [x]).drop (i + 1) := by
  rw [List.drop_eq_getElem_cons (by simp; omega), List.getElem_append_left h]
theorem drop_end (L : List ByteArray) (x : ByteArray) (i : Nat) (h : i = L.length) : (L ++ [x]).drop i = [x] := by
  rw [h, List.drop_append_of_le_length (Nat.le_refl _), List.drop_length]; rfl
def RunD (s : ByteArray) (L : List ByteArray) (loop : Int) (c : Nat) (p : Int) : Prop :=
  ((rCheck s).1 ≠ 0 ∧ c = (rCheck s).1 ∧ p = (rCheck s).2) ∨
  ((rCheck s).1 = 0 ∧ ∃ (va : List VA) (rs : List R2) (q' : Q), qRead s = (some (va, rs.map R2.ast), q') ∧ (∀ r ∈ rs, RuleOk s va.length r) ∧
    ((c ≠ 0 ∧ BndR (fun s => okT s (topsA va)) L loop c p) ∨
     (L.length ≤ 7000 ∧ (∀ s ∈ L, okT s (topsA va)) ∧ ∃ (k : Nat) (hk : k < L.length), loop = (k : Int) ∧
       ((∃ i, strayG (folT (topsA va) rs) (fun t => hasL t ((refF s).map txtL)) 0 (L ++ [L[k]]) = some i ∧ c = 10 ∧ p = (i : Int)) ∨
        (strayG (folT (topsA va) rs) (fun t => hasL t ((refF s).map txtL)) 0 (L ++ [L[k]]) = none ∧ c = 0 ∧ p = 0)))))

set_option maxRecDepth 100000 in
set_option maxHeartbeats 1600000 in
theorem rrun_any (s : ByteArray) (L : List ByteArray) (hL : ∀ s ∈ L, s.size ≤ maxLen) (hlen : L.length ≤ 9223372036854775807) (loop : Int) (v : Value) (w : World) (hs : s.size ≤ maxLen) (hr : Reads w v L) :
    Calls Tryd.prog 11 #[.string s, .agg #[v, .int .i64 loop]] w fun e w' => (∃ (c : Nat) (p : Int), e = .returned (.tuple #[.int .i64 c, .int .i64 p]) ∧ RunD s L loop c p) ∧ Below w.heap.size w w' := by
  have HRD : Put (Reads w v L) := ⟨hr⟩
  obtain ⟨aoL, capL, rfl, hcell⟩ := hr
  have HC : Put (_) := ⟨hcell⟩
  have HL : Put (_) := ⟨hL⟩
  obtain ⟨w0, hw0⟩ : ∃ w0, w0 = w.alloc (.cells #[.slice aoL L.length capL, .int .i64 loop] 35) := ⟨_, rfl⟩
  have hB0 : Below w.heap.size w w0 := by rw [hw0]; exact (Below.refl _ _).alloc (Nat.le_refl _) _
  have bx0 : w0.heap[w.heap.size]? = some (.cells #[.slice aoL L.length capL, .int .i64 loop] 35 (0, 0)) := by rw [hw0]; exact heap_alloc_new w _
  have HX0 : Put (_ ∧ _) := ⟨hB0, bx0⟩
  have hck := rcheck_any s w0 hs
  have hw0' := hw0.symm
  clear hcell hL hB0 bx0 hw0
  by_cases h0 : (rCheck s).1 = 0
  · obtain ⟨hle, hp0, va, ra, q', hq, hw⟩ := rcheck_good h0
    rw [h0, hp0] at hck
    have H0 : Put (_ ∧ _) := ⟨h0, hq⟩
    go_enter Tryd.func11, Tryd.ntmps11
    go_wp2_with fail
    refine hck.mono ?_
    rintro e w1 ⟨rfl, hb1⟩
    clear hck
    go_wp2_with fail
    refine (rread_any hle hq).mono ?_
    rintro e w2 ⟨⟨ao, aor, cap, capr, vs, rs, bad, rfl, hv, hrr, hOv, hOr, h3, h8, hfin⟩, hb2⟩
    rcases hfin with ⟨p, h1, h2, rfl⟩ | ⟨h1, rfl, htied⟩
    · cases h1
    obtain ⟨rfl, rfl⟩ : va = vs.map V3.ast ∧ ra = rs.map R2.ast := by simpa using h1
    obtain ⟨_, _, htop, hok⟩ := good_model hq hw htied
    have e1 : topsA (vs.map V3.ast) = vs.map V3.top := by simp [topsA, V3.ast]
    clear h1 hq hw h0 htied hw0'
    obtain ⟨w3, hw3⟩ : ∃ w3, w3 = w2.alloc (.cells #[.slice ao vs.length cap, .slice aor rs.length capr] 48) := ⟨_, rfl⟩
    have hw3' := hw3.symm
    have hb01 : Below w.heap.size w w2 := HX0.out.1.trans ((hb1.mono HX0.out.1.size).trans (hb2.mono (Nat.le_trans HX0.out.1.size hb1.size)))
    have hb23 : Below w2.heap.size w2 w3 := by rw [hw3]; exact (Below.refl _ _).alloc (Nat.le_refl _) _
    have hB3 : Below w.heap.size w w3 := hb01.trans (hb23.mono hb01.size)
    have bxm : w3.heap[w2.heap.size]? = some (.cells #[.slice ao vs.length cap, .slice aor rs.length capr] 48 (0, 0)) := by rw [hw3]; exact heap_alloc_new w2 _
    have bxl : w3.heap[w.heap.size]? = some (.cells #[.slice aoL L.length capL, .int .i64 loop] 35 (0, 0)) := by
      have l0 := lt_of_block HX0.out.2
      have l1 := Nat.lt_of_lt_of_le l0 hb1.size
      exact (hb23.block _ (Nat.lt_of_lt_of_le l1 hb2.size)).trans ((hb2.block _ l1).trans ((hb1.block _ l0).trans HX0.out.2))
    have HB3 : Put (_ ∧ _ ∧ _) := ⟨hB3, bxm, bxl⟩
    have HV : Put (_) := ⟨hb23.ownsRow' hv⟩
    have HRR : Put (_) := ⟨hb23.ownsRow' hrr⟩
    have HOV : Put (_) := ⟨fun v (hv : v ∈ vs) => hb23.okV (hOv v hv)⟩
    have HOR : Put (_) := ⟨fun v (hv : v ∈ rs) => hb23.okR (hOr v hv)⟩
    have HT : Put (_) := ⟨htop⟩
    have HOK : Put (_) := ⟨hok⟩
    have q0 := two_cell0 bxl
    have q1 := two_cell1 bxl
    have p0 := two_cell0 bxm
    have p1 := two_cell1 bxm
    have lm := lt_of_block bxm
    have ll := lt_of_block bxl
    clear hv hrr hOv hOr htop hok bxm bxl hB3 hb23 hb01 hw3 HX0 hb1 hb2
    have HBD : Put (_) := ⟨bound_any (w := w3) ao aor cap rs.length capr w1.heap.size vs h3 L HL.out hlen loop _ (HRD.out.below HB3.out.1) HV.out⟩
    go_wp2_with fail
    refine HBD.out.mono ?_
    rintro e w4 ⟨⟨c, p, rfl, hbd⟩, hb4⟩
    have HBR : Put (_) := ⟨hbd⟩
    clear hbd HBD
    have HB4 : Put (Below w.heap.size w w4) := ⟨HB3.out.1.trans (hb4.mono HB3.out.1.size)⟩
    have q0' := (hb4.cell (p := ⟨w.heap.size, 0, none⟩) ll).trans q0
    have q1' := (hb4.cell (p := ⟨w.heap.size, 1, none⟩) ll).trans q1
    have p0' := (hb4.cell (p := ⟨w2.heap.size, 0, none⟩) lm).trans p0
    have p1' := (hb4.cell (p := ⟨w2.heap.size, 1, none⟩) lm).trans p1
    have ll4 : w.heap.size < w4.heap.size := Nat.lt_of_lt_of_le ll hb4.size
    have lm4 : w2.heap.size < w4.heap.size := Nat.lt_of_lt_of_le lm hb4.size
    clear q0 q1 p0 p1 hw3'
    by_cases hc0 : c = 0
    · subst hc0
      obtain ⟨h7, hall, hl0, hl1⟩ : L.length ≤ 7000 ∧ (∀ s ∈ L, okT s (vs.map V3.top)) ∧ 0 ≤ loop ∧ loop < (L.length : Int) := by
        rcases HBR.out with ⟨_, h, _⟩ | ⟨_, _, _, _, _, h, _⟩ | ⟨_, _, _, h, _⟩ | ⟨a, b, c, d, _, _⟩
        · cases h
        · cases h
        · cases h
        · exact ⟨a, b, c, d⟩
      obtain ⟨k, rfl⟩ : ∃ k : Nat, loop = (k : Int) := ⟨loop.toNat, by omega⟩
      have hk : k < L.length := by omega
      have HALL : Put (_) := ⟨hall⟩
      clear hall HBR
      obtain ⟨b, o, rfl, hbl, hcell⟩ := HC.out (by omega)
      have HC4 : Put (∀ i (h : i < L.length), w4.cell? ⟨b, o + i, none⟩ = some (.string L[i])) := ⟨fun i h => (HB4.out.cell (p := ⟨b, o + i, none⟩) hbl).trans (hcell i h)⟩
      have hb4l : b < w4.heap.size := Nat.lt_of_lt_of_le hbl HB4.out.size
      clear hcell HC
      have HFS : Put (_) := ⟨firsts22_any (w := w4) ao aor cap rs.length capr w1.heap.size vs h3 (fun v hv => (HT.out v hv).1.2) (hb4.ownsRow' HV.out) (fun v hv => hb4.okV (HOV.out v hv))⟩
      have HV4 : Put (_) := ⟨hb4.ownsRow' HV.out⟩
      have HRR4 : Put (_) := ⟨hb4.ownsRow' HRR.out⟩
      have HOR4 : Put (_) := ⟨fun v (hv : v ∈ rs) => hb4.okR (HOR.out v hv)⟩
      clear hb4 HV HRR HOR HOV
      go_wp2_with fail
      refine HFS.out.mono ?_
      rintro e w5 ⟨⟨vF, rfl, hrow⟩, hb5⟩
      clear HFS
      have hrf : refF s = (allL (vs.map V3.top)).filter (isFP (vs.map V3.l)) := by
        unfold refF; rw [H0.out.2]
        have e1 : (vs.map V3.ast).map (fun v => v.1) = vs.map V3.top := by simp [V3.ast]
        have e2 : (vs.map V3.ast).map (fun v => v.2.1) = vs.map V3.l := by simp [V3.ast]
        show (allL ((vs.map V3.ast).map (fun v => v.1))).filter (isFP ((vs.map V3.ast).map (fun v => v.2.1))) = _
        rw [e1, e2]
      rw [← hrf] at hrow
      have hFl := own_len hrow
      rw [strs_bys] at hrow
      have HROW : Put (w5.ownsRow w4.heap.size 9 1 vF ((refF s).map txtL).length (bys ((refF s).map txtL))) := ⟨by rw [List.length_map]; exact hrow⟩
      obtain ⟨aoF, capF, rfl⟩ := owned_slice' HROW.out
      obtain ⟨FL, hFL⟩ : ∃ FL, FL = (refF s).map txtL := ⟨_, rfl⟩
      have HFL : Put (_ = _) := ⟨hFL⟩
      rw [← hFL] at HROW
      rw [← hFL]
      clear hrow hrf hFL
      have hFl' : FL.length ≤ 9223372036854775807 := by rw [HFL.out, List.length_map]; exact hFl
      have hFl2 : (refF s).length = FL.length := by rw [HFL.out, List.length_map]
      have q0 := (hb5.cell (p := ⟨w.heap.size, 0, none⟩) ll4).trans q0'
      have c0 := (hb5.cell (p := ⟨b, o + 0, none⟩) hb4l).trans (HC4.out 0 (by omega))
      have hl5 : b < w5.heap.size := Nat.lt_of_lt_of_le hb4l hb5.size
      have ll5 : w.heap.size < w5.heap.size := Nat.lt_of_lt_of_le ll4 hb5.size
      have HHAS : Put (∀ W, Below w5.heap.size w5 W → Calls Tryd.prog 24 #[.slice aoF FL.length capF, .string L[0]] W _) := ⟨fun W hW => rhas_any (w := W) w4.heap.size _ FL L[0] hFl' (hW.ownsRow' HROW.out)⟩
      simp only [Nat.add_zero] at c0
      have hLp : (0 : Int) < (L.length : Int) := by omega
      obtain ⟨R, hR⟩ : ∃ R, R = strayG (folT (vs.map V3.top) rs) (fun t => hasL t FL) 0 (L ++ [L[k]]) := ⟨_, rfl⟩
      have HR : Put (_ = _) := ⟨hR⟩
      have HL0 : Put (R = if hasL L[0] FL then strayG (folT (vs.map V3.top) rs) (folT (vs.map V3.top) rs L[0]) 1 ((L ++ [L[k]]).drop 1) else some 0) := ⟨by
        rw [hR]
        have e := drop_app L L[k] 0 (by omega)
        rw [List.drop_zero] at e
        rw [e]
        rfl⟩
      have HFIN : Put (∀ (c : Nat) (p : Int), ((∃ i, R = some i ∧ c = 10 ∧ p = (i : Int)) ∨ (R = none ∧ c = 0 ∧ p = 0)) → RunD s L (k : Int) c p) := ⟨fun c p h => .inr ⟨H0.out.1, _, rs, _, H0.out.2, by rw [List.length_map]; exact HOK.out, .inr ⟨h7, by rw [e1]; exact HALL.out, k, hk, rfl, by rw [e1, ← HFL.out, ← HR.out]; exact h⟩⟩⟩
      clear hR
      have HB5 : Put (Below w.heap.size w w5) := ⟨HB4.out.trans (hb5.mono HB4.out.size)⟩
      go_wp2_with fail
      refine (HHAS.out w5 (Below.refl _ _)).mono ?_
      rintro e w6 ⟨rfl, hb6⟩
      clear HHAS c0 q0
      have hb46 : Below w4.heap.size w4 w6 := hb5.trans (hb6.mono hb5.size)
      have HB6 : Put (Below w.heap.size w w6) := ⟨HB4.out.trans (hb46.mono HB4.out.size)⟩
      have q0 := (hb46.cell (p := ⟨w.heap.size, 0, none⟩) ll4).trans q0'
      have q1 := (hb46.cell (p := ⟨w.heap.size, 1, none⟩) ll4).trans q1'
      have p0 := (hb46.cell (p := ⟨w2.heap.size, 0, none⟩) lm4).trans p0'
      have p1 := (hb46.cell (p := ⟨w2.heap.size, 1, none⟩) lm4).trans p1'
      have HC6 : Put (∀ i (h : i < L.length), w6.cell? ⟨b, o + i, none⟩ = some (.string L[i])) := ⟨fun i h => (hb46.cell (p := ⟨b, o + i, none⟩) hb4l).trans (HC4.out i h)⟩
      have ll6 : w.heap.size < w6.heap.size := Nat.lt_of_lt_of_le ll4 hb46.size
      have lm6 : w2.heap.size < w6.heap.size := Nat.lt_of_lt_of_le lm4 hb46.size
      have lb6 : b < w6.heap.size := Nat.lt_of_lt_of_le hb4l hb46.size
      have HV6 : Put (_) := ⟨hb46.ownsRow' HV4.out⟩
      have HRR6 : Put (_) := ⟨hb46.ownsRow' HRR4.out⟩
      have HOR6 : Put (_) := ⟨fun v (hv : v ∈ rs) => hb46.okR (HOR4.out v hv)⟩
      clear hb5 hb6 hb46 HC4 HV4 HRR4 HOR4 q0' q1' p0' p1' HROW
      cases hh : hasL L[0] FL with
      | false =>
        have FIN : Put (RunD s L (k : Int) 10 0) := ⟨HFIN.out 10 0 (.inl ⟨0, by rw [HL0.out, hh]; rfl, rfl, rfl⟩)⟩
        clear HL0 hh
        go_wp2
        go_ret2
        exact ⟨⟨10, 0, rfl, FIN.out⟩, HB6.out⟩
      | true =>
        have HL1 : Put (R = strayG (folT (vs.map V3.top) rs) (folT (vs.map V3.top) rs L[0]) 1 ((L ++ [L[k]]).drop 1)) := ⟨by rw [HL0.out, hh]; rfl⟩
        clear HL0 hh
        go_wp2_with fail
        go_loopg [15] L.length (fun gk iv wr => ∃ i : Nat, iv = .int .i64 i ∧ i + gk = L.length ∧ Below w6.heap.size w6 wr ∧ Put ((∀ h : i < L.length, R = strayG (folT (vs.map V3.top) rs) (folT (vs.map V3.top) rs L[i]) (i + 1) ((L ++ [L[k]]).drop (i + 1))) ∧ (i = L.length → R = none)))
        case atStart => exact ⟨0, rfl, by omega, Below.refl _ _, ⟨fun _ => HL1.out, fun h => by omega⟩⟩
        case round =>
          clear HL1
          obtain ⟨i, rfl, hik, hBr, HI⟩ := hrel
          have hsr := hBr.size
          have r0 := (hBr.cell (p := ⟨w.heap.size, 0, none⟩) ll6).trans q0
          have r1 := (hBr.cell (p := ⟨w.heap.size, 1, none⟩) ll6).trans q1
          have t0 := (hBr.cell (p := ⟨w2.heap.size, 0, none⟩) lm6).trans p0
          have t1 := (hBr.cell (p := ⟨w2.heap.size, 1, none⟩) lm6).trans p1
          clear q0 q1 p0 p1
          by_cases hlt : i < L.length
          · have hlt' : (i : Int) < (L.length : Int) := by omega
            have k0 : (0 : Int) ≤ (i : Int) := by omega
            have k1 : (0 : Int) ≤ (k : Int) := by omega
            have hk' : (k : Int) < (L.length : Int) := by omega
            obtain ⟨g', rfl⟩ : ∃ g', gk = g' + 1 := ⟨gk - 1, by omega⟩
            have ck := (hBr.cell (p := ⟨b, o + k, none⟩) lb6).trans (HC6.out k hk)
            have ci := (hBr.cell (p := ⟨b, o + i, none⟩) lb6).trans (HC6.out i hlt)
            have HFOL : Put (∀ t, t ∈ L → ∀ W, Below w6.heap.size w6 W → Calls Tryd.prog 25 #[.agg #[.slice ao vs.length cap, .slice aor rs.length capr], .string L[i], .string t] W fun z w' => z = .returned (.bool (folT (vs.map V3.top) rs L[i] t)) ∧ Below W.heap.size W w') := ⟨fun t ht W hW => by
              obtain ⟨a1, a2, a3⟩ := okT_dgs (HALL.out _ (List.getElem_mem hlt))
              obtain ⟨b1, b2, b3⟩ := okT_dgs (HALL.out _ ht)
              have le3 : ∀ d : List Nat, d.length = (vs.map V3.top).length → (∀ k (h1 : k < d.length) (h2 : k < (vs.map V3.top).length), d[k] ≤ (vs.map V3.top)[k]) → ∀ x ∈ d, x ≤ 3 := fun d h1 h2 x hx => by
                obtain ⟨k, hk, rfl⟩ := List.mem_iff_getElem.1 hx
                have h4 : k < vs.length := by rw [List.length_map] at h1; omega
                have := h2 k hk (by rw [List.length_map]; exact h4)
                have h5 := (HT.out _ (List.getElem_mem h4)).1.2
                simp at this
                omega
              have := follows_any (w := W) ao aor cap capr w1.heap.size vs rs (dgs L[i]) (dgs t) h3 h8 (fun v hv => (HT.out v hv).1.2) (by rw [a2, List.length_map]) (by rw [b2, List.length_map]) (le3 _ a2 a3) (le3 _ b2 b3) (fun x hx => ⟨fun c hc => ⟨((HOK.out x hx).conds c hc).1.1, ((HOK.out x hx).conds c hc).2.1⟩, fun c hc => ⟨((HOK.out x hx).chgs c hc).2.2.1.1, ((HOK.out x hx).chgs c hc).2.2.1.2.1, ((HOK.out x hx).chgs c hc).2.2.1.2.2, ((HOK.out x hx).chgs c hc).2.2.2.1, ((HOK.out x hx).chgs c hc).2.2.2.2⟩⟩) (hW.ownsRow' HV6.out) (hW.ownsRow' HRR6.out) (fun x hx => hW.okR (HOR6.out x hx))
              rw [← a1, ← b1] at this
              exact this⟩
            have HB : Put (Below w.heap.size w wr) := ⟨HB6.out.trans (hBr.mono HB6.out.size)⟩
            have lbr : b < wr.heap.size := Nat.lt_of_lt_of_le lb6 hsr
            have llr : w.heap.size < wr.heap.size := Nat.lt_of_lt_of_le ll6 hsr
            have lmr : w2.heap.size < wr.heap.size := Nat.lt_of_lt_of_le lm6 hsr
            by_cases hin : i + 1 < L.length
            · have hin' : (i : Int) + 1 < (L.length : Int) := by omega
              have cn := (hBr.cell (p := ⟨b, o + (i + 1), none⟩) lb6).trans (HC6.out (i + 1) hin)
              have HSTEP : Put (R = if folT (vs.map V3.top) rs L[i] L[i + 1] then strayG (folT (vs.map V3.top) rs) (folT (vs.map V3.top) rs L[i + 1]) (i + 2) ((L ++ [L[k]]).drop (i + 2)) else some (i + 1)) := ⟨by
                rw [HI.out.1 hlt]
                rw [drop_app L L[k] (i + 1) hin]
                rfl⟩
              have HF1 : Put (_) := ⟨HFOL.out L[i + 1] (List.getElem_mem hin)⟩
              clear HFOL HI
              obtain ⟨bb, hbb⟩ : ∃ bb, bb = folT (vs.map V3.top) rs L[i] L[i + 1] := ⟨_, rfl⟩
              rw [← hbb] at HF1 HSTEP
              clear hbb
              have hd : Below w6.heap.size w6 wr.drew := hBr.drew
              go_wp2_with fail
              go_region_held3 (fun w' => w'.cell? ⟨w.heap.size, 0, none⟩ = some (.slice (some ⟨b, o, none⟩) L.length capL) ∧ w'.cell? ⟨w2.heap.size, 0, none⟩ = some (.slice ao vs.length cap) ∧ w'.cell? ⟨w2.heap.size, 1, none⟩ = some (.slice aor rs.length capr) ∧ w'.cell? ⟨b, o + i, none⟩ = some (.string L[i]))
                (first
                  | exact ⟨r0, t0, t1, ci⟩
                  | exact ⟨(hb3.cell (p := ⟨w.heap.size, 0, none⟩) llr).trans r0, (hb3.cell (p := ⟨w2.heap.size, 0, none⟩) lmr).trans t0, (hb3.cell (p := ⟨w2.heap.size, 1, none⟩) lmr).trans t1, (hb3.cell (p := ⟨b, o + i, none⟩) lbr).trans ci⟩
                  | go_keep)
                (first
                  | (go_at_call 25; refine (HF1.out wr.drew hd).mono ?_; rintro e w3' ⟨rfl, hb3'⟩; have hb3 : Below wr.heap.size wr w3' := ⟨hb3'.os, hb3'.tape, hb3'.output, hb3'.size, hb3'.block⟩))
              all_goals
                have hB3 : Below w6.heap.size w6 w3' := hBr.trans (hb3.mono hsr)
                have HBn : Put (Below w.heap.size w w3') := ⟨HB6.out.trans (hB3.mono HB6.out.size)⟩
                clear hb3 hb3' hBr HF1 r0 r1 t0 t1 ck ci
                cases bb with
                | true =>
                  have HN : Put ((∀ h : i + 1 < L.length, R = strayG (folT (vs.map V3.top) rs) (folT (vs.map V3.top) rs L[i + 1]) (i + 1 + 1) ((L ++ [L[k]]).drop (i + 1 + 1))) ∧ (i + 1 = L.length → R = none)) := ⟨⟨fun _ => by rw [HSTEP.out]; rfl, fun h => by omega⟩⟩
                  clear HSTEP
                  go_wp2
                  go_roundg g'
                  case measure => exact Nat.lt_succ_self _
                  case rel => exact ⟨i + 1, by go_num, by omega, hB3, HN⟩
                | false =>
                  have FIN : Put (RunD s L (k : Int) 10 ((i + 1 : Nat) : Int)) := ⟨HFIN.out 10 _ (.inl ⟨i + 1, by rw [HSTEP.out]; rfl, rfl, rfl⟩)⟩
                  clear HSTEP hB3
                  go_wp2
                  go_ret2
                  exact ⟨⟨10, _, rfl, FIN.out⟩, HBn.out⟩
            · have hin' : ¬ ((i : Int) + 1 < (L.length : Int)) := by omega
              have HSTEP : Put (R = if folT (vs.map V3.top) rs L[i] L[k] then none else some (i + 1)) := ⟨by
                rw [HI.out.1 hlt]
                rw [drop_end L L[k] (i + 1) (by omega)]
                rfl⟩
              have HF1 : Put (_) := ⟨HFOL.out L[k] (List.getElem_mem hk)⟩
              clear HFOL HI
              obtain ⟨bb, hbb⟩ : ∃ bb, bb = folT (vs.map V3.top) rs L[i] L[k] := ⟨_, rfl⟩
              rw [← hbb] at HF1 HSTEP
              clear hbb
              have hd : Below w6.heap.size w6 wr.drew := hBr.drew
              go_wp2_with fail
              go_region_held3 (fun w' => w'.cell? ⟨w.heap.size, 0, none⟩ = some (.slice (some ⟨b, o, none⟩) L.length capL) ∧ w'.cell? ⟨w2.heap.size, 0, none⟩ = some (.slice ao vs.length cap) ∧ w'.cell? ⟨w2.heap.size, 1, none⟩ = some (.slice aor rs.length capr) ∧ w'.cell? ⟨b, o + i, none⟩ = some (.string L[i]))
                (first
                  | exact ⟨r0, t0, t1, ci⟩
                  | exact ⟨(hb3.cell (p := ⟨w.heap.size, 0, none⟩) llr).trans r0, (hb3.cell (p := ⟨w2.heap.size, 0, none⟩) lmr).trans t0, (hb3.cell (p := ⟨w2.heap.size, 1, none⟩) lmr).trans t1, (hb3.cell (p := ⟨b, o + i, none⟩) lbr).trans ci⟩
                  | go_keep)
                (first
                  | (go_at_call 25; refine (HF1.out wr.drew hd).mono ?_; rintro e w3' ⟨rfl, hb3'⟩; have hb3 : Below wr.heap.size wr w3' := ⟨hb3'.os, hb3'.tape, hb3'.output, hb3'.size, hb3'.block⟩))
              all_goals
                have hB3 : Below w6.heap.size w6 w3' := hBr.trans (hb3.mono hsr)
                have HBn : Put (Below w.heap.size w w3') := ⟨HB6.out.trans (hB3.mono HB6.out.size)⟩
                clear hb3 hb3' hBr HF1 r0 r1 t0 t1 ck ci
                cases bb with
                | true =>
                  have HN : Put ((∀ h : i + 1 < L.length, R = strayG (folT (vs.map V3.top) rs) (folT (vs.map V3.top) rs L[i + 1]) (i + 1 + 1) ((L ++ [L[k]]).drop (i + 1 + 1))) ∧ (i + 1 = L.length → R = none)) := ⟨⟨fun h => absurd h hin, fun _ => by rw [HSTEP.out]; rfl⟩⟩
                  clear HSTEP
                  go_wp2
                  go_roundg g'
                  case measure => exact Nat.lt_succ_self _
                  case rel => exact ⟨i + 1, by go_num, by omega, hB3, HN⟩
                | false =>
                  have FIN : Put (RunD s L (k : Int) 10 ((i + 1 : Nat) : Int)) := ⟨HFIN.out 10 _ (.inl ⟨i + 1, by rw [HSTEP.out]; rfl, rfl, rfl⟩)⟩
                  clear HSTEP hB3
                  go_wp2
                  go_ret2
                  exact ⟨⟨10, _, rfl, FIN.out⟩, HBn.out⟩
          · obtain rfl : i = L.length := by omega
            have hlt' : ¬ ((L.length : Int) < (L.length : Int)) := by omega
            have FIN : Put (RunD s L (k : Int) 0 0) := ⟨HFIN.out 0 0 (.inr ⟨HI.out.2 rfl, rfl, rfl⟩)⟩
            have HB : Put (Below w.heap.size w wr) := ⟨HB6.out.trans (hBr.mono HB6.out.size)⟩
            clear HI hBr
            go_wp2
            go_ret2
            exact ⟨⟨0, 0, rfl, FIN.out⟩, HB.out⟩
    · have hne : ((c : Int) == 0) = false := by simp; exact hc0
      have FIN : Put (RunD s L loop c p) := ⟨.inr ⟨H0.out.1, _, rs, _, H0.out.2, by rw [List.length_map]; exact HOK.out, .inl ⟨hc0, by rw [e1]; exact HBR.out⟩⟩⟩
      clear HBR hb4
      go_wp2
      go_ret2
      exact ⟨⟨c, p, rfl, FIN.out⟩, HB4.out⟩
  · have hne : (((rCheck s).1 : Int) == 0) = false := by simp; exact h0
    have FIN : Put (RunD s L loop (rCheck s).1 (rCheck s).2) := ⟨.inl ⟨h0, rfl, rfl⟩⟩
    clear h0
    generalize (rCheck s).1 = a at *
    generalize (rCheck s).2 = b at *
    go_enter Tryd.func11, Tryd.ntmps11
    go_wp2_with fail
    refine hck.mono ?_
    rintro e w1 ⟨rfl, hb1⟩
    have HB : Put (Below w.heap.size w w1) := ⟨HX0.out.1.trans (hb1.mono HX0.out.1.size)⟩
    clear hck hb1 hw0'
    go_wp2
    go_ret2
    exact ⟨⟨a, b, rfl, FIN.out⟩, HB.out⟩
end Go.Proofs.YtgoebckimmofoaaDoor

/- The two answers of Run are the same. Pure. Our own text. -/
namespace Go.Proofs.YtgoebckimmofoaaDoor

theorem firsts_bit (tops : List Nat) (ls : List (List Nat)) (f : Nat → Nat) (h3 : tops.length ≤ 3) (hl : ls.length = tops.length)
    (hf : ∀ k (h : k < ls.length), ∀ v, v < 4 → ((f k).testBit v = true ↔ v ∈ ls[k])) (hle : ∀ k (h : k < ls.length) (h' : k < tops.length), ∀ v ∈ ls[k], v ≤ tops[k]) :
    ∀ x, x < 64 → (frs f tops.length).testBit x = (valid tops x && isFP ls (digs tops.length x)) := by
  intro x hx
  rw [Bool.eq_iff_iff, Bool.and_eq_true, frs_bit f tops.length x h3 hx, valid_iff tops h3 x, isFP_iff ls _ (by simp [digs, hl])]
  constructor
  · rintro ⟨a, b⟩
    refine ⟨⟨fun k hk => ?_, b⟩, fun k hk hk' => ?_⟩
    · exact hle k (by omega) hk _ ((hf k (by omega) _ (dig_lt _ _)).1 (a k hk))
    · rw [digs_get, List.contains_iff_mem]
      exact (hf k hk _ (dig_lt _ _)).1 (a k (by omega))
  · rintro ⟨⟨a, b⟩, c⟩
    refine ⟨fun j hj => ?_, b⟩
    have := c j (by omega) (by simp [digs]; exact hj)
    rw [digs_get, List.contains_iff_mem] at this
    exact (hf j (by omega) _ (dig_lt _ _)).2 this
theorem nexts_bit {s : ByteArray} {tops : List Nat} {G : Nat → Nat} {rs : List R2} (h3 : tops.length ≤ 3) (ht : ∀ t ∈ tops, 1 ≤ t ∧ t ≤ 3) (hG : ∀ k (h : k < tops.length), G k = tops[k]) (ho : ∀ r ∈ rs, RuleOk s tops.length r) {x : Nat} (hx : x < 64) (hvx : valid tops x = true) :
    ∀ y, y < 64 → (nxS (rs.map (fun r => ruP s G r.ast)) x).testBit y = (valid tops y && folF tops (digs tops.length x) (digs tops.length y) rs true) := by
  intro y hy
  rw [Bool.eq_iff_iff, Bool.and_eq_true, folF_iff]
  have hru : ∀ r ∈ rs, ruP s G r.ast x = if mayC r.cl (digs tops.length x) = true then chF (dsP s G (r.dl.map D7.ast) x) (2 ^ x) else 0 := by
    intro r hr
    unfold ruP
    rw [may_same (ho r hr)]
    rfl
  have hU : ∀ z, (nxU (rs.map (fun r => ruP s G r.ast)) x).testBit z = true ↔ ∃ r ∈ rs, mayC r.cl (digs tops.length x) = true ∧ (chF (dsP s G (r.dl.map D7.ast) x) (2 ^ x)).testBit z = true := by
    intro z
    unfold nxU
    rw [nxU_bit]
    simp only [Nat.zero_testBit, Bool.false_eq_true, false_or, List.mem_map]
    constructor
    · rintro ⟨_, ⟨r, hr, rfl⟩, h⟩
      have h' : (ruP s G r.ast x).testBit z = true := h
      rw [hru r hr] at h'
      by_cases hm : mayC r.cl (digs tops.length x) = true
      · rw [if_pos hm] at h'; exact ⟨r, hr, hm, h'⟩
      · rw [if_neg hm] at h'; simp at h'
    · rintro ⟨r, hr, hm, h⟩
      refine ⟨_, ⟨r, hr, rfl⟩, ?_⟩
      show (ruP s G r.ast x).testBit z = true
      rw [hru r hr, if_pos hm]; exact h
  unfold nxS
  by_cases h0 : nxU (rs.map (fun r => ruP s G r.ast)) x = 0
  · rw [if_pos h0, pow_bit]
    have hno : ∀ r ∈ rs, mayC r.cl (digs tops.length x) = false := by
      intro r hr
      cases hm : mayC r.cl (digs tops.length x) with
      | false => rfl
      | true =>
        obtain ⟨z, _, hz⟩ := ru_some h3 hG ht (ho r hr) hx
        have := (hU z).2 ⟨r, hr, hm, hz⟩
        rw [h0] at this
        simp at this
    constructor
    · rintro rfl
      exact ⟨hvx, .inr ⟨rfl, hno, rfl⟩⟩
    · rintro ⟨hvy, ⟨r, hr, hm, _⟩ | ⟨_, _, h⟩⟩
      · rw [hno r hr] at hm; cases hm
      · exact (txt_inj rfl h3 hx hy hvx hvy).1 h
  · rw [if_neg h0, hU y]
    have hsome : ∃ r ∈ rs, mayC r.cl (digs tops.length x) = true := by
      apply Classical.byContradiction
      intro hn
      apply h0
      apply Nat.eq_of_testBit_eq
      intro z
      have : ¬ (nxU (rs.map (fun r => ruP s G r.ast)) x).testBit z = true := fun h => by
        obtain ⟨r, hr, hm, _⟩ := (hU z).1 h
        exact hn ⟨r, hr, hm⟩
      simpa using this
    constructor
    · rintro ⟨r, hr, hm, h⟩
      obtain ⟨a, b⟩ := (rule_bit h3 hG (ho r hr) hx hy hvx).1 h
      exact ⟨a, .inl ⟨r, hr, hm, b⟩⟩
    · rintro ⟨hvy, ⟨r, hr, hm, h⟩ | ⟨_, h, _⟩⟩
      · exact ⟨r, hr, hm, (rule_bit h3 hG (ho r hr) hx hy hvx).2 ⟨hvy, h⟩⟩
      · obtain ⟨r, hr, hm⟩ := hsome
        rw [h r hr] at hm; cases hm

theorem BndR.imp {ok ok' : ByteArray → Prop} {L : List ByteArray} {loop : Int} {c : Nat} {p : Int} (e : ∀ s, ok s ↔ ok' s) (h : BndR ok L loop c p) : BndR ok' L loop c p := by
  have : ok = ok' := funext fun s => propext (e s)
  rw [← this]; exact h

/-- A text of a state's number. -/
theorem IsS.dgs {t : ByteArray} {n x : Nat} {g : Nat → Nat} (h : IsS t n g x) : dgs t = digs n x := by
  apply List.ext_getElem
  · have : t.data.size = n := h.2.1
    simp [Go.Proofs.YtgoebckimmofoaaDoor.dgs, digs, this]
  · intro k h1 h2
    rw [digs_get]
    have hk : k < t.size := by
      have h3 := h1
      unfold Go.Proofs.YtgoebckimmofoaaDoor.dgs at h3
      rw [List.length_map, Array.length_toList] at h3
      exact h3
    have e : (Go.Proofs.YtgoebckimmofoaaDoor.dgs t)[k] = t.data[k].toNat - 48 := by simp [Go.Proofs.YtgoebckimmofoaaDoor.dgs]
    have h4 : t.data[k].toNat = 48 + dig x k := (h.2.2.1 k hk).1
    rw [e, h4]; omega
theorem IsS.valid {t : ByteArray} {x : Nat} {va : List VA} (h3 : va.length ≤ 3) (h : IsS t va.length (GvA va) x) : valid (topsA va) x = true := by
  rw [valid_iff _ (by unfold topsA; rw [List.length_map]; exact h3)]
  refine ⟨fun k hk => ?_, fun k hk hk3 => h.2.2.2 k (by unfold topsA at hk; rw [List.length_map] at hk; exact hk) hk3⟩
  have := (h.2.2.1 k (by rw [h.2.1]; unfold topsA at hk; rw [List.length_map] at hk; exact hk)).2
  rw [Gv_top k hk] at this
  exact this

theorem stray_same (nx : Nat → Nat) (F : ByteArray → ByteArray → Bool) (ok : ByteArray → Nat → Prop) (hF : ∀ t x t' x', ok t x → ok t' x' → (nx x).testBit x' = F t t') :
    ∀ (xs : List Nat) (L : List ByteArray) (m : Nat) (P : ByteArray → Bool) (i : Nat), xs.length = L.length → (∀ j (h1 : j < xs.length) (h2 : j < L.length), ok L[j] xs[j]) → (∀ t x, ok t x → m.testBit x = P t) → strayP nx m i xs = strayG F P i L
  | [], [], _, _, _, _, _, _ => rfl
  | [], _ :: _, _, _, _, h, _, _ => by simp at h
  | _ :: _, [], _, _, _, h, _, _ => by simp at h
  | x :: xs, t :: L, m, P, i, hl, hok, hP => by
    have h0 : ok t x := hok 0 (by simp) (by simp)
    have ih := stray_same nx F ok hF xs L (nx x) (F t) (i + 1) (by simpa using hl) (fun j h1 h2 => hok (j + 1) (by simpa using h1) (by simpa using h2)) (fun t' x' h => hF t x t' x' h0 h)
    unfold strayP strayG
    rw [hP t x h0, ih]

theorem run_same {s : ByteArray} {L : List ByteArray} {loop : Int} {c c' : Nat} {p p' : Int} (h : RunR s L loop c p) (h' : RunD s L loop c' p') : c = c' ∧ p = p' := by
  rcases h with ⟨h0, rfl, rfl⟩ | ⟨h0, va, ra, q, hq, hg, h⟩
  · rcases h' with ⟨_, rfl, rfl⟩ | ⟨h1, _⟩
    · exact ⟨rfl, rfl⟩
    · exact absurd h1 h0
  rcases h' with ⟨h1, _⟩ | ⟨_, va', rs, q2, hq', hro, h'⟩
  · exact absurd h0 h1
  rw [hq] at hq'
  simp only [Prod.mk.injEq, Option.some.injEq] at hq'
  obtain ⟨⟨rfl, rfl⟩, _⟩ := hq'
  have hokk : ∀ s, OkS s va.length (GvA va) ↔ okT s (topsA va) := fun s => okS_okT
  have fin : c ≠ 0 → BndR (fun s => okT s (topsA va)) L loop c p → c = c' ∧ p = p' := by
    intro hc hB
    rcases h' with ⟨_, h'⟩ | ⟨h7', hok, k, hk, rfl, _⟩
    · exact hB.uniq h'
    · have := hB.uniq (.inr (.inr (.inr ⟨h7', hok, by omega, by omega, rfl, rfl⟩)))
      exact absurd this.1 hc
  rcases h with ⟨h7, rfl, rfl⟩ | ⟨h7, i, hi, hno, hok, rfl, rfl⟩ | ⟨h7, hok, hl, rfl, rfl⟩ | ⟨h7, k, rfl, xs, f, hxl, hk, hxs, hfb, hres⟩
  · exact fin (by omega) (.inl ⟨h7, rfl, rfl⟩)
  · exact fin (by omega) (.inr (.inl ⟨h7, i, hi, fun e => hno ((hokk _).2 e), fun j hj => (hokk _).1 (hok j hj), rfl, rfl⟩))
  · exact fin (by omega) (.inr (.inr (.inl ⟨h7, fun s hs => (hokk _).1 (hok s hs), hl, rfl, rfl⟩)))
  · have hokL : ∀ s ∈ L, okT s (topsA va) := fun s hs => by
      obtain ⟨j, hj, rfl⟩ := List.getElem_of_mem hs
      exact (hokk _).1 (hxs j hj).ok
    rcases h' with ⟨hc', h'⟩ | ⟨h7', hok, k', hk', hkk, hres'⟩
    · have := h'.uniq (.inr (.inr (.inr ⟨h7, hokL, by omega, by omega, rfl, rfl⟩)))
      exact absurd this.1 hc'
    · obtain rfl : k = k' := by omega
      have hlt : (topsA va).length = va.length := by simp [topsA]
      have hsame : strayP (nxtS s va (rs.map R2.ast)) (frs f va.length) 0 (xs ++ [xs[k]]) = strayG (folT (topsA va) rs) (fun t => hasL t ((refF s).map txtL)) 0 (L ++ [L[k]]) := by
        apply stray_same _ _ (fun t x => IsS t va.length (GvA va) x)
        · intro t x t' x' h1 h2
          have hn := nexts_bit (s := s) (tops := topsA va) (G := GvA va) (rs := rs) (by rw [hlt]; exact hg.l3)
            (fun t ht => by obtain ⟨v, hv, rfl⟩ := List.mem_map.1 ht; exact (hg.v v hv).1) (fun k hk => Gv_top k hk) (fun r hr => by rw [hlt]; exact hro r hr) h1.1 (h1.valid hg.l3) x' h2.1
          rw [h2.valid hg.l3, hlt, Bool.true_and] at hn
          unfold folT
          rw [h1.dgs, h2.dgs, ← hn]
          unfold nxtS
          rw [List.map_map]
          rfl
        · simp [hxl]
        · intro j h1 h2
          by_cases e : j < L.length
          · rw [List.getElem_append_left e, List.getElem_append_left (by omega)]
            exact hxs j e
          · have hj : j = L.length := by simp at h2; omega
            rw [List.getElem_append_right (by omega), List.getElem_append_right (by omega)]
            simp only [List.getElem_singleton]
            exact hxs k hk'
        · intro t x h1
          have hfbit := firsts_bit (topsA va) (va.map (fun v => v.2.1)) f (by rw [hlt]; exact hg.l3) (by simp [topsA])
            (fun k hk v hv => by
              have hk' : k < va.length := by simpa using hk
              have := (hfb k (by have := hg.l3; omega)).2 v hv
              rw [this]
              simp [List.getD, hk'])
            (fun k hk _ v hv => by
              have hk' : k < va.length := by simpa using hk
              simp only [topsA, List.getElem_map] at hv ⊢
              exact (hg.v _ (List.getElem_mem hk')).2 v hv) x h1.1
          rw [h1.valid hg.l3, hlt, Bool.true_and] at hfbit
          rw [hfbit]
          have hrf : refF s = (allL (topsA va)).filter (isFP (va.map (fun v => v.2.1))) := by unfold refF; rw [hq]; rfl
          have ht : t = txtL (digs va.length x) := by rw [← h1.dgs]; exact (okT_dgs ((hokk _).1 h1.ok)).1
          have hal := allL_eq (topsA va) (by rw [hlt]; exact hg.l1) (by rw [hlt]; exact hg.l3) (fun t ht => by obtain ⟨v, hv, rfl⟩ := List.mem_map.1 ht; exact (hg.v v hv).1)
          rw [hlt] at hal
          rw [Bool.eq_iff_iff]
          unfold hasL
          rw [List.any_eq_true, hrf, hal]
          constructor
          · intro hP
            refine ⟨txtL (digs va.length x), List.mem_map.2 ⟨digs va.length x, List.mem_filter.2 ⟨List.mem_map.2 ⟨x, List.mem_filter.2 ⟨List.mem_range.2 h1.1, h1.valid hg.l3⟩, rfl⟩, hP⟩, rfl⟩, ?_⟩
            rw [← ht]; simp
          · rintro ⟨u, hu, he⟩
            obtain ⟨d, hd, rfl⟩ := List.mem_map.1 hu
            obtain ⟨hd1, hd2⟩ := List.mem_filter.1 hd
            obtain ⟨y, hy, rfl⟩ := List.mem_map.1 hd1
            obtain ⟨hy1, hy2⟩ := List.mem_filter.1 hy
            rw [ht] at he
            have : y = x := (txt_inj hlt (hg.l3) (List.mem_range.1 hy1) h1.1 hy2 (h1.valid hg.l3)).1 (by simpa using he)
            rw [← this]; exact hd2
      rcases hres with ⟨i, e, rfl, rfl⟩ | ⟨e, rfl, rfl⟩
      · rcases hres' with ⟨i', e', rfl, rfl⟩ | ⟨e', rfl, rfl⟩
        · rw [hsame, e'] at e
          simp only [Option.some.injEq] at e
          exact ⟨rfl, by rw [e]⟩
        · rw [hsame, e'] at e; cases e
      · rcases hres' with ⟨i', e', rfl, rfl⟩ | ⟨e', rfl, rfl⟩
        · rw [hsame, e'] at e; cases e
        · exact ⟨rfl, rfl⟩
end Go.Proofs.YtgoebckimmofoaaDoor

/- The law Runs. Our own text. -/
namespace Go.Proofs.YtgoebckimmofoaaDoor
open Go.RowKit Go.Lib

set_option maxRecDepth 100000 in
set_option maxHeartbeats 1600000 in
theorem runs_any (s : ByteArray) (L : List ByteArray) (hL : ∀ s ∈ L, s.size ≤ maxLen) (hlen : L.length * 16 ≤ 140737488355328) (loop : Int) (v : Value) (w : World) (hs : s.size ≤ maxLen) (h0w : 0 < w.heap.size) (hT : Tab w) (hr : Reads w v L) :
    Calls Tryd.prog 4 #[.string s, v, .int .i64 loop] w fun e w' => e = .returned (.bool true) ∧ Below w.heap.size w w' := by
  have HRD : Put (Reads w v L) := ⟨hr⟩
  obtain ⟨ao, cap, rfl, _⟩ := hr
  have HL : Put (_) := ⟨hL⟩
  clear hL
  have hlen' : L.length ≤ 9223372036854775807 := by omega
  go_enter Tryd.func4, Tryd.ntmps4
  go_wp2_with fail
  refine (copied_any _ L hlen HRD.out).mono ?_
  rintro e w1 ⟨⟨vc, rfl, hrow⟩, hb1⟩
  have HROW : Put (_) := ⟨hrow⟩
  obtain ⟨aoc, capc, rfl⟩ := owned_slice' hrow
  have HB1 : Put (_) := ⟨hb1⟩
  clear hrow hb1
  go_wp2_with fail
  refine (run_any s L HL.out loop _ w.heap.size w1 hs (Nat.lt_of_lt_of_le h0w HB1.out.size) (hT.below HB1.out h0w) HROW.out).mono ?_
  rintro e w2 ⟨⟨c, p, rfl, hR⟩, hb2⟩
  have HR : Put (_) := ⟨hR⟩
  have HROW2 : Put (_) := ⟨hb2.ownsRow' HROW.out⟩
  have HB2 : Put (_) := ⟨HB1.out.trans (hb2.mono HB1.out.size)⟩
  clear hR hb2 HROW
  go_wp2_with fail
  refine (rrun_any s L HL.out hlen' loop _ w2 hs (HRD.out.below HB2.out)).mono ?_
  rintro e w3 ⟨⟨c', p', rfl, hD⟩, hb3⟩
  obtain ⟨rfl, rfl⟩ := run_same HR.out hD
  have HROW3 : Put (_) := ⟨hb3.ownsRow' HROW2.out⟩
  have HB3 : Put (_) := ⟨HB2.out.trans (hb3.mono HB2.out.size)⟩
  clear hD hb3 HROW2 HR HB2 HB1
  have HSM : Put (_) := ⟨sameR_any (w := w3) _ _ L hlen' (Reads.of_owns HROW3.out) (HRD.out.below HB3.out)⟩
  go_wp2_with fail
  refine HSM.out.mono ?_
  rintro e w4 ⟨rfl, hb4⟩
  have HB4 : Put (_) := ⟨HB3.out.trans (hb4.mono HB3.out.size)⟩
  clear hb4 HSM HROW3 HB3
  go_wp2_with fail
  refine (num8_any c w4).mono ?_
  rintro e w5 ⟨rfl, hb5⟩
  have HB5 : Put (_) := ⟨HB4.out.trans (hb5.mono HB4.out.size)⟩
  clear hb5 HB4
  go_wp2
  go_ret
  exact ⟨rfl, HB5.out⟩
end Go.Proofs.YtgoebckimmofoaaDoor
