import Derived.Test.YtgoebckimmofoaaDoorP24
import Derived.Test.YtgoebckimmofoaaDoorP13
/- The law Walked. Our own text. -/
namespace Go.Proofs.YtgoebckimmofoaaDoor
open Go.RowKit Go.Lib

section
variable {w : World}
set_option maxRecDepth 100000 in
set_option maxHeartbeats 800000 in
theorem lhas_any (b1 : Nat) (va : Value) (l : List ByteArray) (s : ByteArray) (hl : l.length ≤ 9223372036854775807) (ha : w.ownsRow b1 9 1 va l.length (bys l)) :
    Calls Tryd.prog 15 #[va, .string s] w fun e w' => e = .returned (.bool (hasL s l)) ∧ Below w.heap.size w w' := by
  have HROW : Put (_) := ⟨ha⟩
  obtain ⟨ao, cap, rfl⟩ := owned_slice' ha
  obtain ⟨R, hR⟩ : ∃ R, R = hasL s l := ⟨_, rfl⟩
  rw [← hR]
  have HR : Put (R = hasL s l) := ⟨hR⟩
  clear ha hR
  go_enter Tryd.func15, Tryd.ntmps15
  go_wp2_with fail
  go_loopg [5] l.length (fun gk iv wr => ∃ i : Nat, iv = .int .i64 i ∧ i + gk = l.length ∧ wr = w ∧ R = hasL s (l.drop i))
  case atStart => exact ⟨0, rfl, by omega, rfl, by rw [List.drop_zero]; exact HR.out⟩
  case round =>
    clear HR
    obtain ⟨i, rfl, hik, rfl, hRi⟩ := hrel
    by_cases hlt : i < l.length
    · have hlt' : (i : Int) < (l.length : Int) := by omega
      have k0 : (0 : Int) ≤ (i : Int) := by omega
      obtain ⟨g', rfl⟩ : ∃ g', gk = g' + 1 := ⟨gk - 1, by omega⟩
      obtain ⟨g, cap', e, hg1, hg2, hg3, hcell⟩ := bys_at HROW.out (by omega)
      obtain ⟨rfl, rfl⟩ : ao = some ⟨g, 0, none⟩ ∧ cap = cap' := by simpa using e
      have q := hcell i hlt
      rw [List.drop_eq_getElem_cons hlt] at hRi
      generalize l[i] = t at *
      have HRi : Put (_ = _) := ⟨hRi⟩
      clear hRi hcell e
      cases h : (t.toList == s.toList) with
      | true =>
        have HT : Put (R = true) := ⟨by rw [HRi.out]; simp [hasL, h]⟩
        clear HRi
        go_wp2
        go_ret
        exact ⟨by rw [HT.out]; rfl, Below.refl _ _⟩
      | false =>
        have HT : Put (R = hasL s (l.drop (i + 1))) := ⟨by rw [HRi.out]; simp [hasL, h]⟩
        clear HRi
        go_wp2
        go_roundg g'
        case measure => exact Nat.lt_succ_self _
        case rel => exact ⟨i + 1, by go_num, by omega, rfl, HT.out⟩
    · obtain rfl : i = l.length := by omega
      have hlt' : ¬ ((l.length : Int) < (l.length : Int)) := by omega
      rw [List.drop_length] at hRi
      have HT : Put (R = false) := ⟨by rw [hRi]; rfl⟩
      clear hRi
      go_wp2
      go_ret
      exact ⟨by rw [HT.out]; rfl, Below.refl _ _⟩
end
/-- What bound answers. -/
def BdA (s : ByteArray) (L : List ByteArray) (loop : Int) (b : Bool) : Prop :=
  ((rCheck s).1 ≠ 0 ∧ b = false) ∨
  ((rCheck s).1 = 0 ∧ ∃ (va : List VA) (rs : List R2) (q' : Q), qRead s = (some (va, rs.map R2.ast), q') ∧ GoodA va (rs.map R2.ast) ∧ (∀ r ∈ rs, RuleOk s va.length r) ∧
    ((b = false ∧ ∃ (c : Nat) (p : Int), c ≠ 0 ∧ c ≠ 10 ∧ BndR (fun s => okT s (topsA va)) L loop c p) ∨
     (b = true ∧ L.length ≤ 7000 ∧ (∀ s ∈ L, okT s (topsA va)) ∧ ∃ k : Nat, k < L.length ∧ loop = (k : Int))))
set_option maxRecDepth 100000 in
set_option maxHeartbeats 1600000 in
theorem lbound_any (s : ByteArray) (L : List ByteArray) (hL : ∀ s ∈ L, s.size ≤ maxLen) (hlen : L.length ≤ 9223372036854775807) (loop : Int) (v : Value) (w : World) (hs : s.size ≤ maxLen) (hr : Reads w v L) :
    Calls Tryd.prog 13 #[.string s, v, .int .i64 loop] w fun e w' => (∃ b : Bool, e = .returned (.bool b) ∧ BdA s L loop b) ∧ Below w.heap.size w w' := by
  have HRD : Put (Reads w v L) := ⟨hr⟩
  obtain ⟨aoL, capL, rfl, _⟩ := hr
  have HL : Put (_) := ⟨hL⟩
  have hck := rcheck_any s w hs
  clear hL
  by_cases h0 : (rCheck s).1 = 0
  · obtain ⟨hle, hp0, va, ra, q', hq, hw⟩ := rcheck_good h0
    rw [h0, hp0] at hck
    have H0 : Put (_ ∧ _) := ⟨h0, hq⟩
    have HG : Put (_) := ⟨goodA hq hw⟩
    go_enter Tryd.func13, Tryd.ntmps13
    go_wp2_with fail
    refine hck.mono ?_
    rintro e w1 ⟨rfl, hb1⟩
    clear hck
    go_wp2_with fail
    refine (rread_any hle hq).mono ?_
    rintro e w2 ⟨⟨ao, aor, cap, capr, vs, rs, bad, rfl, hv, hrr, hOv, hOr, h3, h8, hfin⟩, hb2⟩
    rcases hfin with ⟨p, h1, h2, rfl⟩ | ⟨h1, rfl, htied⟩
    · cases h1
    obtain ⟨rfl, rfl⟩ : va = vs.map V3.ast ∧ ra = rs.map R2.ast := by simpa using h1
    obtain ⟨_, _, _, hok⟩ := good_model hq hw htied
    have e1 : topsA (vs.map V3.ast) = vs.map V3.top := by simp [topsA, V3.ast]
    clear h1 hq hw h0 htied hOv hOr hrr
    obtain ⟨w3, hw3⟩ : ∃ w3, w3 = w2.alloc (.cells #[.slice ao vs.length cap, .slice aor rs.length capr] 48) := ⟨_, rfl⟩
    have hw3' := hw3.symm
    have hb01 : Below w.heap.size w w2 := hb1.trans (hb2.mono hb1.size)
    have hb23 : Below w2.heap.size w2 w3 := by rw [hw3]; exact (Below.refl _ _).alloc (Nat.le_refl _) _
    have HB3 : Put (Below w.heap.size w w3) := ⟨hb01.trans (hb23.mono hb01.size)⟩
    have bxm : w3.heap[w2.heap.size]? = some (.cells #[.slice ao vs.length cap, .slice aor rs.length capr] 48 (0, 0)) := by rw [hw3]; exact heap_alloc_new w2 _
    have HOK : Put (_) := ⟨hok⟩
    have p0 := two_cell0 bxm
    have p1 := two_cell1 bxm
    have HBD : Put (_) := ⟨bound_any (w := w3) ao aor cap rs.length capr w1.heap.size vs h3 L HL.out hlen loop _ (HRD.out.below HB3.out) (hb23.ownsRow' hv)⟩
    clear hv hok bxm hb23 hb01 hw3 hb1 hb2
    go_wp2_with fail
    refine HBD.out.mono ?_
    rintro e w4 ⟨⟨c, p, rfl, hbd⟩, hb4⟩
    have HBR : Put (_) := ⟨hbd⟩
    have HB4 : Put (Below w.heap.size w w4) := ⟨HB3.out.trans (hb4.mono HB3.out.size)⟩
    clear hbd HBD hb4 p0 p1 hw3'
    by_cases hc0 : c = 0
    · subst hc0
      have FIN : Put (BdA s L loop true) := ⟨by
        refine .inr ⟨H0.out.1, _, rs, _, H0.out.2, HG.out, by rw [List.length_map]; exact HOK.out, .inr ⟨rfl, ?_⟩⟩
        rcases HBR.out with ⟨_, h, _⟩ | ⟨_, _, _, _, _, h, _⟩ | ⟨_, _, _, h, _⟩ | ⟨a, b, c, d, _, _⟩
        · cases h
        · cases h
        · cases h
        · exact ⟨a, by rw [e1]; exact b, loop.toNat, by omega, by omega⟩⟩
      clear HBR
      go_wp2
      go_ret
      exact ⟨⟨true, rfl, FIN.out⟩, HB4.out⟩
    · have hne : ((c : Int) == 0) = false := by simp; exact hc0
      have FIN : Put (BdA s L loop false) := ⟨.inr ⟨H0.out.1, _, rs, _, H0.out.2, HG.out, by rw [List.length_map]; exact HOK.out, .inl ⟨rfl, c, p, hc0, by
        rcases HBR.out with ⟨_, h, _⟩ | ⟨_, _, _, _, _, h, _⟩ | ⟨_, _, _, h, _⟩ | ⟨_, _, _, _, h, _⟩ <;> omega, by rw [e1]; exact HBR.out⟩⟩⟩
      clear HBR
      go_wp2
      go_ret
      exact ⟨⟨false, rfl, FIN.out⟩, HB4.out⟩
  · have hne : (((rCheck s).1 : Int) == 0) = false := by simp; exact h0
    have FIN : Put (BdA s L loop false) := ⟨.inl ⟨h0, rfl⟩⟩
    clear h0
    generalize (rCheck s).1 = a at *
    generalize (rCheck s).2 = b at *
    go_enter Tryd.func13, Tryd.ntmps13
    go_wp2_with fail
    refine hck.mono ?_
    rintro e w1 ⟨rfl, hb1⟩
    clear hck
    go_wp2
    go_ret
    exact ⟨⟨false, rfl, FIN.out⟩, hb1⟩
end Go.Proofs.YtgoebckimmofoaaDoor

/- The law Walked. Our own text. -/
namespace Go.Proofs.YtgoebckimmofoaaDoor
open Go.RowKit Go.Lib

set_option maxRecDepth 100000 in
set_option maxHeartbeats 1600000 in
theorem walked_any (s : ByteArray) (L : List ByteArray) (hL : ∀ s ∈ L, s.size ≤ maxLen) (hlen : L.length * 16 ≤ 140737488355328) (loop : Int) (v : Value) (w : World) (hs : s.size ≤ maxLen) (h0w : 0 < w.heap.size) (hT : Tab w) (hr : Reads w v L) :
    Calls Tryd.prog 5 #[.string s, v, .int .i64 loop] w fun e w' => e = .returned (.bool true) ∧ Below w.heap.size w w' := by
  have HRD : Put (Reads w v L) := ⟨hr⟩
  obtain ⟨ao, cap, rfl, hcell⟩ := hr
  have HL : Put (_) := ⟨hL⟩
  have HC : Put (_) := ⟨hcell⟩
  clear hL hcell
  have hlen' : L.length ≤ 9223372036854775807 := by omega
  go_enter Tryd.func5, Tryd.ntmps5
  go_wp2_with fail
  refine (copied_any _ L hlen HRD.out).mono ?_
  rintro e w1 ⟨⟨vc, rfl, hrow⟩, hb1⟩
  have HROW : Put (_) := ⟨hrow⟩
  obtain ⟨aoc, capc, rfl⟩ := owned_slice' hrow
  have HB1 : Put (_) := ⟨hb1⟩
  clear hrow hb1
  go_wp2_with fail
  refine (run_any s L HL.out loop _ w.heap.size w1 hs (Nat.lt_of_lt_of_le h0w HB1.out.size) (hT.below HB1.out h0w) HROW.out).mono ?_
  rintro e w2 ⟨⟨c, p, rfl, hR⟩, hb2⟩
  have HR : Put (_) := ⟨hR⟩
  have HB2 : Put (_) := ⟨HB1.out.trans (hb2.mono HB1.out.size)⟩
  clear hR hb2 HROW HB1
  go_wp2_with fail
  refine (lbound_any s L HL.out hlen' loop _ w2 hs (HRD.out.below HB2.out)).mono ?_
  rintro e w3 ⟨⟨b, rfl, hBA⟩, hb3⟩
  have HB3 : Put (_) := ⟨HB2.out.trans (hb3.mono HB2.out.size)⟩
  clear hb3 HB2
  cases b with
  | false =>
    obtain ⟨hc0, hc10⟩ : c ≠ 0 ∧ c ≠ 10 := by
      rcases hBA with ⟨h0, _⟩ | ⟨h0, va, rs, q, hq, hg, hro, ⟨_, c', p', h1, h2, hbd⟩ | ⟨h, _⟩⟩
      · have := run_same HR.out (c' := (rCheck s).1) (p' := (rCheck s).2) (.inl ⟨h0, rfl, rfl⟩)
        have hle := rCheck_le s
        omega
      · have := run_same HR.out (c' := c') (p' := p') (.inr ⟨h0, va, rs, q, hq, hro, .inl ⟨h1, hbd⟩⟩)
        omega
      · cases h
    have hn0 : ((c : Int) != 0) = true := by simp; exact hc0
    have hn10 : ((c : Int) != 10) = true := by simp; omega
    clear hBA HR
    go_wp2_with fail
    refine (num8_any c w3).mono ?_
    rintro e w4 ⟨rfl, hb4⟩
    have HB4 : Put (_) := ⟨HB3.out.trans (hb4.mono HB3.out.size)⟩
    clear hb4
    go_wp2_with fail
    refine (num8_any c w4).mono ?_
    rintro e w5 ⟨rfl, hb5⟩
    have HB5 : Put (_) := ⟨HB4.out.trans (hb5.mono HB4.out.size)⟩
    clear hb5
    go_wp2
    go_ret
    exact ⟨rfl, HB5.out⟩
  | true =>
    obtain ⟨h0, va, rs, q, hq, hg, hro, h7, hall, k, hk, rfl⟩ : (rCheck s).1 = 0 ∧ ∃ (va : List VA) (rs : List R2) (q' : Q), qRead s = (some (va, rs.map R2.ast), q') ∧ GoodA va (rs.map R2.ast) ∧ (∀ r ∈ rs, RuleOk s va.length r) ∧ L.length ≤ 7000 ∧ (∀ s ∈ L, okT s (topsA va)) ∧ ∃ k : Nat, k < L.length ∧ loop = (k : Int) := by
      rcases hBA with ⟨_, h⟩ | ⟨h0, va, rs, q, hq, hg, hro, ⟨h, _⟩ | ⟨_, h⟩⟩
      · cases h
      · cases h
      · exact ⟨h0, va, rs, q, hq, hg, hro, h⟩
    obtain ⟨R, hRe⟩ : ∃ R, R = strayG (folT (topsA va) rs) (fun t => hasL t ((refF s).map txtL)) 0 (L ++ [L[k]]) := ⟨_, rfl⟩
    have HS : Put (∀ i, R = some i → c = 10 ∧ p = (i : Int)) := ⟨fun i h => by
      have := run_same HR.out (c' := 10) (p' := (i : Int)) (.inr ⟨h0, va, rs, q, hq, hro, .inr ⟨h7, hall, k, hk, rfl, .inl ⟨i, by rw [← hRe]; exact h, rfl, rfl⟩⟩⟩)
      exact this⟩
    have HN : Put (R = none → c = 0 ∧ p = 0) := ⟨fun h => by
      have := run_same HR.out (c' := 0) (p' := 0) (.inr ⟨h0, va, rs, q, hq, hro, .inr ⟨h7, hall, k, hk, rfl, .inr ⟨by rw [← hRe]; exact h, rfl, rfl⟩⟩⟩)
      exact this⟩
    obtain ⟨FL, hFL⟩ : ∃ FL, FL = (refF s).map txtL := ⟨_, rfl⟩
    have HL0 : Put (R = if hasL L[0] FL then strayG (folT (topsA va) rs) (folT (topsA va) rs L[0]) 1 ((L ++ [L[k]]).drop 1) else some 0) := ⟨by
      rw [hRe, hFL]
      have e := drop_app L L[k] 0 (by omega)
      rw [List.drop_zero] at e
      rw [e]
      rfl⟩
    have HF : Put (_) := ⟨first9_any s w3 hs (Nat.lt_of_lt_of_le h0w HB3.out.size) (hT.below HB3.out h0w)⟩
    have hp0 : (rCheck s).2 = 0 := (rcheck_good h0).2.1
    rw [h0, hp0, if_pos rfl] at HF
    have HG : Put (_ ∧ _ ∧ _ ∧ _ ∧ _) := ⟨h0, hq, hg, hro, hall⟩
    obtain ⟨bb, oo, rfl, hbl, hcell⟩ := HC.out (by omega)
    have HC' : Put (_) := ⟨hcell⟩
    clear hBA HR hRe h0 hq hg hro hall hcell HC hp0
    go_wp2_with fail
    refine HF.out.mono ?_
    rintro e w4 ⟨⟨vF, rfl, hrow⟩, hb4⟩
    clear HF
    have hFl := own_len hrow
    rw [strs_bys] at hrow
    have HROW : Put (w4.ownsRow w3.heap.size 9 1 vF FL.length (bys FL)) := ⟨by rw [hFL, List.length_map]; exact hrow⟩
    obtain ⟨aoF, capF, rfl⟩ := owned_slice' HROW.out
    have hFl' : FL.length ≤ 9223372036854775807 := by rw [hFL, List.length_map]; exact hFl
    have HB4 : Put (_) := ⟨HB3.out.trans (hb4.mono HB3.out.size)⟩
    have HFL : Put (_ = _) := ⟨hFL⟩
    clear hrow hb4 hFL hFl HB3
    go_wp2_with fail
    refine (num8_any 0 w4).mono ?_
    rintro e w5 ⟨rfl, hb5⟩
    have HB5 : Put (_) := ⟨HB4.out.trans (hb5.mono HB4.out.size)⟩
    have HROW5 : Put (_) := ⟨hb5.ownsRow' HROW.out⟩
    clear hb5 HROW HB4
    have c0 := (HB5.out.cell (p := ⟨bb, oo + 0, none⟩) hbl).trans (HC'.out 0 (by omega))
    simp only [Nat.add_zero] at c0
    have hLp : (0 : Int) < (L.length : Int) := by omega
    have HHAS : Put (_) := ⟨lhas_any (w := w5) w3.heap.size _ FL L[0] hFl' HROW5.out⟩
    go_wp2_with fail
    refine HHAS.out.mono ?_
    rintro e w6 ⟨rfl, hb6⟩
    have HB6 : Put (_) := ⟨HB5.out.trans (hb6.mono HB5.out.size)⟩
    clear HHAS c0 hb6 HROW5 HB5
    cases hh : hasL L[0] FL with
    | false =>
      obtain ⟨rfl, rfl⟩ := HS.out 0 (by rw [HL0.out, hh]; rfl)
      clear HL0 hh HS HN
      go_wp2_with fail
      refine (num8_any _ w6).mono ?_
      rintro e w7 ⟨rfl, hb7⟩
      have HB7 : Put (_) := ⟨HB6.out.trans (hb7.mono HB6.out.size)⟩
      clear hb7
      go_wp2
      go_ret
      exact ⟨rfl, HB7.out⟩
    | true =>
      have HL1 : Put (R = strayG (folT (topsA va) rs) (folT (topsA va) rs L[0]) 1 ((L ++ [L[k]]).drop 1)) := ⟨by rw [HL0.out, hh]; rfl⟩
      clear HL0 hh
      go_wp2_with fail
      go_loopg [14] L.length (fun gk iv wr => ∃ i : Nat, iv = .int .i64 i ∧ i + gk = L.length ∧ Below w.heap.size w wr ∧ Put ((∀ h : i < L.length, R = strayG (folT (topsA va) rs) (folT (topsA va) rs L[i]) (i + 1) ((L ++ [L[k]]).drop (i + 1))) ∧ (i = L.length → R = none)))
      case atStart => exact ⟨0, rfl, by omega, HB6.out, ⟨fun _ => HL1.out, fun h => by omega⟩⟩
      case round =>
        clear HL1
        obtain ⟨i, rfl, hik, hBr, HI⟩ := hrel
        have hsr := hBr.size
        by_cases hlt : i < L.length
        · have hlt' : (i : Int) < (L.length : Int) := by omega
          have k0 : (0 : Int) ≤ (i : Int) := by omega
          have k1 : (0 : Int) ≤ (k : Int) := by omega
          have hk' : (k : Int) < (L.length : Int) := by omega
          obtain ⟨g', rfl⟩ : ∃ g', gk = g' + 1 := ⟨gk - 1, by omega⟩
          have ck := (hBr.cell (p := ⟨bb, oo + k, none⟩) hbl).trans (HC'.out k hk)
          have ci := (hBr.cell (p := ⟨bb, oo + i, none⟩) hbl).trans (HC'.out i hlt)
          have HB : Put (Below w.heap.size w wr) := ⟨hBr⟩
          obtain ⟨t, ht, hcn, htL, hst⟩ : ∃ t : ByteArray, (∀ h : i + 1 < L.length, t = L[i + 1]) ∧ (¬ i + 1 < L.length → t = L[k]) ∧ t ∈ L ∧ R = (if folT (topsA va) rs L[i] t then strayG (folT (topsA va) rs) (folT (topsA va) rs t) (i + 2) ((L ++ [L[k]]).drop (i + 2)) else some (i + 1)) := by
            by_cases hin : i + 1 < L.length
            · exact ⟨L[i + 1], fun _ => rfl, fun h => absurd hin h, List.getElem_mem hin, by rw [HI.out.1 hlt, drop_app L L[k] (i + 1) hin]; rfl⟩
            · refine ⟨L[k], fun h => absurd h hin, fun _ => rfl, List.getElem_mem hk, ?_⟩
              rw [HI.out.1 hlt, drop_end L L[k] (i + 1) (by omega)]
              have e : (L ++ [L[k]]).drop (i + 2) = [] := List.drop_of_length_le (by simp; omega)
              rw [e]; rfl
          have HST : Put (_ = _) := ⟨hst⟩
          have HTT : Put (_ ∧ _ ∧ _) := ⟨ht, hcn, htL⟩
          have HNX : Put (_) := ⟨fun W (hW : Below w.heap.size w W) => next14_ans s L[i] W hs (HL.out _ (List.getElem_mem hlt)) (Nat.lt_of_lt_of_le h0w hW.size) (hT.below hW h0w)⟩
          clear hst ht hcn htL HI
          by_cases hin : i + 1 < L.length
          · have hin' : (i : Int) + 1 < (L.length : Int) := by omega
            have cn := (hBr.cell (p := ⟨bb, oo + (i + 1), none⟩) hbl).trans (HC'.out (i + 1) hin)
            rw [← HTT.out.1 hin] at cn
            go_wp2_with fail
            refine (HNX.out wr HB.out).mono ?_
            rintro e wn ⟨⟨aom, capm, gg, pp, M, hans, rfl, hrow⟩, hbn⟩
            have hML := own_len hrow
            obtain ⟨hgg, hpp, hMp, hMh⟩ : gg = 0 ∧ pp = 0 ∧ 0 < M.length ∧ hasL t (M.map txtL) = folT (topsA va) rs L[i] t := by
              rcases hans with ⟨h, _⟩ | ⟨_, hp, va', ra', q2, hq2, h⟩
              · exact absurd HG.out.1 h
              · have e2 := HG.out.2.1
                rw [e2] at hq2
                simp only [Prod.mk.injEq, Option.some.injEq] at hq2
                obtain ⟨⟨rfl, rfl⟩, _⟩ := hq2
                rcases h with ⟨hno, _⟩ | ⟨h0, x, hx, rfl⟩
                · exact absurd (okS_okT.2 (HG.out.2.2.2.2 _ (List.getElem_mem hlt))) hno
                · exact ⟨h0, hp, nxL_pos HG.out.2.2.1 hx.1, next_has HG.out.2.2.1 HG.out.2.2.2.1 hx (okS_okT.2 (HG.out.2.2.2.2 _ HTT.out.2.2))⟩
            subst hgg hpp
            rw [strs_bys] at hrow
            have HROWM : Put (wn.ownsRow wr.heap.size 9 1 (.slice aom M.length capm) (M.map txtL).length (bys (M.map txtL))) := ⟨by rw [List.length_map]; exact hrow⟩
            have HBn : Put (Below w.heap.size w wn) := ⟨HB.out.trans (hbn.mono HB.out.size)⟩
            have hM0 : ((M.length : Int) == 0) = false := by simp; exact fun h => by rw [h] at hMp; simp at hMp
            have HMH : Put (_ = _) := ⟨hMh⟩
            clear hrow hbn hans HNX cn hMh ck ci hBr
            go_wp2_with fail
            refine (num8_any _ wn).mono ?_
            rintro e wq ⟨rfl, hbq⟩
            have HBq : Put (Below w.heap.size w wq) := ⟨HBn.out.trans (hbq.mono HBn.out.size)⟩
            have HHS : Put (_) := ⟨lhas_any (w := wq) wr.heap.size (.slice aom M.length capm) (M.map txtL) t (by rw [List.length_map]; exact hML) (hbq.ownsRow' HROWM.out)⟩
            rw [HMH.out] at HHS
            clear hbq HROWM HMH
            obtain ⟨fo, hfo⟩ : ∃ fo, fo = folT (topsA va) rs L[i] t := ⟨_, rfl⟩
            rw [← hfo] at HHS HST
            clear hfo
            go_wp2_with fail
            refine HHS.out.mono ?_
            rintro e wz ⟨rfl, hbz⟩
            have HBz : Put (Below w.heap.size w wz) := ⟨HBq.out.trans (hbz.mono HBq.out.size)⟩
            clear hbz HHS
            cases fo with
            | true =>
              have HI' : Put ((∀ h : i + 1 < L.length, R = strayG (folT (topsA va) rs) (folT (topsA va) rs L[i + 1]) (i + 1 + 1) ((L ++ [L[k]]).drop (i + 1 + 1))) ∧ (i + 1 = L.length → R = none)) := ⟨fun h => by rw [HST.out, HTT.out.1 h]; rfl, fun h => by
                rw [HST.out]
                have e : (L ++ [L[k]]).drop (i + 2) = [] := List.drop_of_length_le (by simp; omega)
                rw [e]; rfl⟩
              clear HST HTT
              go_wp2
              go_roundg g'
              case measure => exact Nat.lt_succ_self _
              case rel => exact ⟨i + 1, by go_num, by omega, HBz.out, HI'⟩
            | false =>
              obtain ⟨hc, hp⟩ := HS.out (i + 1) (by rw [HST.out]; rfl)
              subst hc hp
              clear HST HTT HS HN
              go_wp2_with fail
              refine (num8_any _ wz).mono ?_
              rintro e wy ⟨rfl, hby⟩
              have HBy : Put (Below w.heap.size w wy) := ⟨HBz.out.trans (hby.mono HBz.out.size)⟩
              clear hby
              go_wp2
              go_ret
              exact ⟨rfl, HBy.out⟩
          · have hin' : ¬ ((i : Int) + 1 < (L.length : Int)) := by omega
            rw [← HTT.out.2.1 hin] at ck
            go_wp2_with fail
            refine (HNX.out wr HB.out).mono ?_
            rintro e wn ⟨⟨aom, capm, gg, pp, M, hans, rfl, hrow⟩, hbn⟩
            have hML := own_len hrow
            obtain ⟨hgg, hpp, hMp, hMh⟩ : gg = 0 ∧ pp = 0 ∧ 0 < M.length ∧ hasL t (M.map txtL) = folT (topsA va) rs L[i] t := by
              rcases hans with ⟨h, _⟩ | ⟨_, hp, va', ra', q2, hq2, h⟩
              · exact absurd HG.out.1 h
              · have e2 := HG.out.2.1
                rw [e2] at hq2
                simp only [Prod.mk.injEq, Option.some.injEq] at hq2
                obtain ⟨⟨rfl, rfl⟩, _⟩ := hq2
                rcases h with ⟨hno, _⟩ | ⟨h0, x, hx, rfl⟩
                · exact absurd (okS_okT.2 (HG.out.2.2.2.2 _ (List.getElem_mem hlt))) hno
                · exact ⟨h0, hp, nxL_pos HG.out.2.2.1 hx.1, next_has HG.out.2.2.1 HG.out.2.2.2.1 hx (okS_okT.2 (HG.out.2.2.2.2 _ HTT.out.2.2))⟩
            subst hgg hpp
            rw [strs_bys] at hrow
            have HROWM : Put (wn.ownsRow wr.heap.size 9 1 (.slice aom M.length capm) (M.map txtL).length (bys (M.map txtL))) := ⟨by rw [List.length_map]; exact hrow⟩
            have HBn : Put (Below w.heap.size w wn) := ⟨HB.out.trans (hbn.mono HB.out.size)⟩
            have hM0 : ((M.length : Int) == 0) = false := by simp; exact fun h => by rw [h] at hMp; simp at hMp
            have HMH : Put (_ = _) := ⟨hMh⟩
            clear hrow hbn hans HNX  hMh ck ci hBr
            go_wp2_with fail
            refine (num8_any _ wn).mono ?_
            rintro e wq ⟨rfl, hbq⟩
            have HBq : Put (Below w.heap.size w wq) := ⟨HBn.out.trans (hbq.mono HBn.out.size)⟩
            have HHS : Put (_) := ⟨lhas_any (w := wq) wr.heap.size (.slice aom M.length capm) (M.map txtL) t (by rw [List.length_map]; exact hML) (hbq.ownsRow' HROWM.out)⟩
            rw [HMH.out] at HHS
            clear hbq HROWM HMH
            obtain ⟨fo, hfo⟩ : ∃ fo, fo = folT (topsA va) rs L[i] t := ⟨_, rfl⟩
            rw [← hfo] at HHS HST
            clear hfo
            go_wp2_with fail
            refine HHS.out.mono ?_
            rintro e wz ⟨rfl, hbz⟩
            have HBz : Put (Below w.heap.size w wz) := ⟨HBq.out.trans (hbz.mono HBq.out.size)⟩
            clear hbz HHS
            cases fo with
            | true =>
              have HI' : Put ((∀ h : i + 1 < L.length, R = strayG (folT (topsA va) rs) (folT (topsA va) rs L[i + 1]) (i + 1 + 1) ((L ++ [L[k]]).drop (i + 1 + 1))) ∧ (i + 1 = L.length → R = none)) := ⟨fun h => by rw [HST.out, HTT.out.1 h]; rfl, fun h => by
                rw [HST.out]
                have e : (L ++ [L[k]]).drop (i + 2) = [] := List.drop_of_length_le (by simp; omega)
                rw [e]; rfl⟩
              clear HST HTT
              go_wp2
              go_roundg g'
              case measure => exact Nat.lt_succ_self _
              case rel => exact ⟨i + 1, by go_num, by omega, HBz.out, HI'⟩
            | false =>
              obtain ⟨hc, hp⟩ := HS.out (i + 1) (by rw [HST.out]; rfl)
              subst hc hp
              clear HST HTT HS HN
              go_wp2_with fail
              refine (num8_any _ wz).mono ?_
              rintro e wy ⟨rfl, hby⟩
              have HBy : Put (Below w.heap.size w wy) := ⟨HBz.out.trans (hby.mono HBz.out.size)⟩
              clear hby
              go_wp2
              go_ret
              exact ⟨rfl, HBy.out⟩
        · obtain rfl : i = L.length := by omega
          have hlt' : ¬ ((L.length : Int) < (L.length : Int)) := by omega
          obtain ⟨rfl, rfl⟩ := HN.out (HI.out.2 rfl)
          have HB : Put (Below w.heap.size w wr) := ⟨hBr⟩
          clear HI hBr HN HS
          go_wp2_with fail
          refine (num8_any _ wr).mono ?_
          rintro e w7 ⟨rfl, hb7⟩
          have HB7 : Put (_) := ⟨HB.out.trans (hb7.mono HB.out.size)⟩
          clear hb7
          go_wp2
          go_ret
          exact ⟨rfl, HB7.out⟩
end Go.Proofs.YtgoebckimmofoaaDoor
