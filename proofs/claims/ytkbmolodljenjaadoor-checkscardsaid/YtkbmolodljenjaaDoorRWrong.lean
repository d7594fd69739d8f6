/- What is wrong with a model: the document's walk over it. Our own text. -/
import Derived.Test.YtkbmolodljenjaaDoorRTwice
namespace Go.Proofs.YtkbmolodljenjaaDoor
open Go.RowKit

end Go.Proofs.YtkbmolodljenjaaDoor
namespace Go.RowKit
open Go.Proofs.YtkbmolodljenjaaDoor
theorem Below.ownsRow' {w w' : World} (h : Below w.heap.size w w') {base e z n : Nat} {v : Value} {xs : List Value} (ho : w.ownsRow base e z v n xs) : w'.ownsRow base e z v n xs := by
  refine ⟨ho.1, ?_⟩
  rcases ho.2 with hn | ⟨g, cap, cur, rfl, hb, hg, r⟩
  · exact .inl hn
  · exact .inr ⟨g, cap, cur, rfl, hb, by rw [h.block g (lt_of_block hg)]; exact hg, r⟩
end Go.RowKit
namespace Go.Proofs.YtkbmolodljenjaaDoor
open Go.RowKit

section
variable {w : World}
set_option maxRecDepth 100000 in
set_option maxHeartbeats 3200000 in
theorem wrong_any (ao aor : Option Addr) (cap capr base : Nat) (vs : List V3) (rs : List R2) (_hb : base ≤ w.heap.size) (h3 : vs.length ≤ 3) (h8 : rs.length ≤ 200)
    (hv : w.ownsRow base 97 3 (.slice ao vs.length cap) vs.length (vs.flatMap V3.cells)) (hr : w.ownsRow base 104 2 (.slice aor rs.length capr) rs.length (rs.flatMap R2.cells))
    (hOv : ∀ v ∈ vs, V3.Ok w base v) (hOr : ∀ x ∈ rs, R2.Ok w base x) :
    Calls Tryd.prog 25 #[.agg #[.slice ao vs.length cap, .slice aor rs.length capr]] w fun e w' => e = .returned (.tuple #[.int .i64 ((wrongP (vs.map V3.ast) (rs.map R2.ast)).1 : Nat), .int .i64 (wrongP (vs.map V3.ast) (rs.map R2.ast)).2]) ∧ Below w.heap.size w w' := by
  have hA := heap_alloc_new w (.cells #[.slice ao vs.length cap, .slice aor rs.length capr] 53)
  have hBel : Below w.heap.size w (w.alloc (.cells #[.slice ao vs.length cap, .slice aor rs.length capr] 53)) := (Below.refl _ _).alloc (Nat.le_refl _) _
  obtain ⟨n0, n1, nf⟩ := cell2 hA
  clear nf
  unfold wrongP
  rw [List.length_map]
  generalize hRest : orP (wr vs.length (rs.map R2.ast)) (0, 0) = Rest
  generalize hP : orP (wv (vs.map V3.ast)) Rest = P
  have HP : Aside (_ = P) := hP
  have HRest : Aside (_ = Rest) := hRest
  have HV : Aside (w.ownsRow base 97 3 (.slice ao vs.length cap) vs.length (vs.flatMap V3.cells)) := hv
  have HR : Aside (w.ownsRow base 104 2 (.slice aor rs.length capr) rs.length (rs.flatMap R2.cells)) := hr
  have HOV : Aside (∀ v ∈ vs, V3.Ok w base v) := hOv
  have HOR : Aside (∀ x ∈ rs, R2.Ok w base x) := hOr
  have HLC : Aside (∀ x ∈ rs, x.cl.length ≤ 9223372036854775807 ∧ x.dl.length ≤ 9223372036854775807) := fun x h => ⟨own_len (hOr x h).1, own_len (hOr x h).2⟩
  have HB : Aside (Below w.heap.size w (w.alloc (.cells #[.slice ao vs.length cap, .slice aor rs.length capr] 53))) := hBel
  clear hv hr hOv hOr hBel hP hRest hA
  go_enter Tryd.func25, Tryd.ntmps25
  go_wp2_with fail
  have hsz : w.heap.size < (w.alloc (.cells #[.slice ao vs.length cap, .slice aor rs.length capr] 53)).heap.size := by simp
  generalize w.alloc (.cells #[.slice ao vs.length cap, .slice aor rs.length capr] 53) = w1 at *
  go_loopg [4] vs.length (fun gk iv wr => ∃ i m : Nat, iv = .int .i64 i ∧ i + gk = vs.length ∧ wr = w1.drewN m ∧ orP (wv ((vs.map V3.ast).drop i)) Rest = P)
  case atStart => exact ⟨0, 0, rfl, by omega, rfl, HP.out⟩
  case round =>
    clear HP
    obtain ⟨i, m, rfl, hik, rfl, hPi⟩ := hrel
    by_cases hlt : i < vs.length
    · have hlt' : (i : Int) < (vs.length : Int) := by omega
      have i0 : (0 : Int) ≤ (i : Int) := by omega
      obtain ⟨gv, rfl, hgv1, hgv2, hgv3, hcv⟩ := row_at V3.len HV.out (by omega)
      have c0 := hcv i hlt 0 (by omega)
      have c1 := hcv i hlt 1 (by omega)
      have c2 := hcv i hlt 2 (by omega)
      rw [← HB.out.cell (p := ⟨gv, _, none⟩) hgv2] at c0 c1 c2
      have hok := HOV.out _ (List.getElem_mem hlt)
      rw [drop_map _ _ _ hlt, orP_wv] at hPi
      obtain ⟨v, hvd⟩ : ∃ v, v = vs[i] := ⟨_, rfl⟩
      rw [← hvd] at c0 c1 c2 hok hPi
      simp only [V3.cells, V3.vf, List.getElem?_cons_zero, List.getElem?_cons_succ, Nat.add_zero] at c0 c1 c2
      simp only [V3.ast] at hPi
      obtain ⟨hrow, hl5, hat⟩ := hok
      clear hcv hvd
      obtain ⟨g', rfl⟩ : ∃ g', gk = g' + 1 := ⟨gk - 1, by omega⟩
      have HPi : Aside (_ = P) := hPi
      have HRow : Aside (w.ownsRow base 3 1 v.vf v.l.length (ints v.l)) := hrow
      clear hPi hrow
      go_wp2_with fail
      go_loopg [5] v.l.length (fun gk kv wr => ∃ k m : Nat, kv = .int .i64 k ∧ k + gk = v.l.length ∧ wr = w1.drewN m ∧ orP (fb v.top v.at_ (v.l.drop k) k) (orP (wv ((vs.map V3.ast).drop (i + 1))) Rest) = P)
      case atStart => exact ⟨0, m, rfl, by omega, rfl, HPi.out⟩
      case round =>
        obtain ⟨k, m', rfl, hkk, rfl, hPk⟩ := hrel
        by_cases hk : k < v.l.length
        · have hk' : (k : Int) < (v.l.length : Int) := by omega
          have k0 : (0 : Int) ≤ (k : Int) := by omega
          obtain ⟨gf, hao, hgf1, hgf2, hgf3, hcf⟩ := ints_at HRow.out (by omega)
          have hck := hcf k hk
          rw [← HB.out.cell (p := ⟨gf, k, none⟩) hgf2] at hck
          rw [hao] at c1
          rw [List.drop_eq_getElem_cons hk, orP_fb] at hPk
          generalize v.l[k] = x at *
          obtain ⟨g2, rfl⟩ : ∃ g2, gk = g2 + 1 := ⟨gk - 1, by omega⟩
          by_cases hx : v.top < x
          · rw [if_pos hx] at hPk
            subst hPk
            have hx' : (v.top : Int) < (x : Int) := by omega
            go_wp2_with fail
            go_quiet (fail)
            go_wp2_with fail
            go_quiet (fail)
            go_wp2
            go_ret2
            refine ⟨?_, ?_⟩
            · first | rfl | (rw [show ((v.at_ + k : Nat) : Int) = (v.at_ : Int) + (k : Int) from by omega]; rfl)
            · first | exact below_drewN HB.out _ | exact below_drewN (below_drewN HB.out _) _ | exact below_drewN (below_drewN (below_drewN HB.out _) _) _
          · rw [if_neg hx] at hPk
            have hx' : ¬ (v.top : Int) < (x : Int) := by omega
            have HPk : Aside (_ = P) := hPk
            clear hPk
            go_wp2_with fail
            go_quiet (fail)
            go_wp2
            go_roundg g2
            case measure => exact Nat.lt_succ_self _
            case rel => exact ⟨k + 1, _, by go_num, by omega, rfl, HPk.out⟩
        · have hk' : ¬ (k : Int) < (v.l.length : Int) := by omega
          have hPk' : orP (wv ((vs.map V3.ast).drop (i + 1))) Rest = P := by
            rw [List.drop_eq_nil_of_le (by omega)] at hPk; exact hPk
          have HPk : Aside (_ = P) := hPk'
          clear hPk hPk'
          go_wp2
          go_roundg g'
          case measure => exact Nat.lt_succ_self _
          case rel => exact ⟨i + 1, _, by go_num, by omega, rfl, HPk.out⟩
    · have hlt' : ¬ (i : Int) < (vs.length : Int) := by omega
      have hPr : Rest = P := by
        rw [List.drop_eq_nil_of_le (by simp; omega)] at hPi; exact hPi
      subst hPr
      clear hPi
      go_wp2_with fail
      have hsz1 : (w1.drewN m).heap.size = w1.heap.size := rfl
      have HB1 : Aside (Below w1.heap.size w1 (w1.drewN m)) := below_drewN (Below.refl _ _) m
      clear hsz1
      generalize w1.drewN m = w2 at *
      go_loopg [6] rs.length (fun gk iv wr => ∃ i : Nat, iv = .int .i64 i ∧ i + gk = rs.length ∧ Below w1.heap.size w1 wr ∧ orP (Go.Proofs.YtkbmolodljenjaaDoor.wr vs.length ((rs.map R2.ast).drop i)) (0, 0) = Rest)
      case atStart => exact ⟨0, rfl, by omega, HB1.out, HRest.out⟩
      case round =>
        clear HRest HB1
        generalize wr = wo at *
        obtain ⟨i, rfl, hik, hbw, hPi⟩ := hrel
        have a0 := (hbw.cell (p := ⟨w.heap.size, 0, none⟩) hsz).trans n0
        have a1 := (hbw.cell (p := ⟨w.heap.size, 1, none⟩) hsz).trans n1
        have hwz : w1.heap.size ≤ wo.heap.size := hbw.size
        have HBW : Aside (Below w1.heap.size w1 wo) := hbw
        clear hbw
        by_cases hlt : i < rs.length
        · have hlt' : (i : Int) < (rs.length : Int) := by omega
          have i0 : (0 : Int) ≤ (i : Int) := by omega
          obtain ⟨gr, rfl, hgr1, hgr2, hgr3, hcr⟩ := row_at R2.len HR.out (by omega)
          have c0 := hcr i hlt 0 (by omega)
          have c1 := hcr i hlt 1 (by omega)
          rw [← HB.out.cell (p := ⟨gr, _, none⟩) hgr2, ← HBW.out.cell (p := ⟨gr, _, none⟩) (by show gr < w1.heap.size; omega)] at c0 c1
          have hok := HOR.out _ (List.getElem_mem hlt)
          have hll := HLC.out _ (List.getElem_mem hlt)
          rw [drop_map _ _ _ hlt, orP_wr] at hPi
          obtain ⟨x, hxd⟩ : ∃ x, x = rs[i] := ⟨_, rfl⟩
          rw [← hxd] at c0 c1 hok hPi hll
          simp only [R2.cells, R2.vi, R2.vd, List.getElem?_cons_zero, List.getElem?_cons_succ, Nat.add_zero] at c0 c1
          simp only [R2.ast] at hPi
          clear hcr hxd
          obtain ⟨g', rfl⟩ : ∃ g', gk = g' + 1 := ⟨gk - 1, by omega⟩
          have HPi : Aside (_ = Rest) := hPi
          have HOK : Aside (R2.Ok w base x) := hok
          have hX := heap_alloc_new wo (.cells #[.slice x.ao x.cl.length x.cap, .slice x.ao' x.dl.length x.cap'] 104)
          obtain ⟨x0, x1, xf⟩ := cell2 hX
          have HBX : Aside (Below wo.heap.size wo (wo.alloc (.cells #[.slice x.ao x.cl.length x.cap, .slice x.ao' x.dl.length x.cap'] 104))) := (Below.refl _ _).alloc (Nat.le_refl _) _
          have hxz : wo.heap.size < (wo.alloc (.cells #[.slice x.ao x.cl.length x.cap, .slice x.ao' x.dl.length x.cap'] 104)).heap.size := by simp
          clear hPi hok hX xf
          go_wp2_with fail
          have b0 := (HBX.out.cell (p := ⟨w.heap.size, 0, none⟩) (by show w.heap.size < wo.heap.size; omega)).trans a0
          have b1 := (HBX.out.cell (p := ⟨w.heap.size, 1, none⟩) (by show w.heap.size < wo.heap.size; omega)).trans a1
          generalize wo.alloc (.cells #[.slice x.ao x.cl.length x.cap, .slice x.ao' x.dl.length x.cap'] 104) = w3 at *
          clear c0 c1 a0 a1
          go_loopg [8] x.cl.length (fun gk kv wq => ∃ k : Nat, kv = .int .i64 k ∧ k + gk = x.cl.length ∧ Below w3.heap.size w3 wq ∧ orP (wc vs.length ((x.cl.map C7.ast).drop k)) (orP (wd vs.length [] (x.dl.map D7.ast)) (orP (Go.Proofs.YtkbmolodljenjaaDoor.wr vs.length ((rs.map R2.ast).drop (i + 1))) (0, 0))) = Rest)
          case atStart => exact ⟨0, rfl, by omega, Below.refl _ _, HPi.out⟩
          case round =>
            clear HPi
            generalize wr = wq at *
            obtain ⟨k, rfl, hkk, hbq, hPk⟩ := hrel
            have e0 := (hbq.cell (p := ⟨w.heap.size, 0, none⟩) (by show w.heap.size < w3.heap.size; omega)).trans b0
            have e1 := (hbq.cell (p := ⟨w.heap.size, 1, none⟩) (by show w.heap.size < w3.heap.size; omega)).trans b1
            have y0 := (hbq.cell (p := ⟨wo.heap.size, 0, none⟩) hxz).trans x0
            have y1 := (hbq.cell (p := ⟨wo.heap.size, 1, none⟩) hxz).trans x1
            have hqz : w3.heap.size ≤ wq.heap.size := hbq.size
            have HBQ : Aside (Below w3.heap.size w3 wq) := hbq
            have HWQ : Aside (Below w.heap.size w wq) := ((HB.out.trans (HBW.out.mono (by omega))).trans (HBX.out.mono (by omega))).trans (hbq.mono (by omega))
            clear hbq
            by_cases hk : k < x.cl.length
            · have hk' : (k : Int) < (x.cl.length : Int) := by omega
              have k0 : (0 : Int) ≤ (k : Int) := by omega
              obtain ⟨gc, hao, hgc1, hgc2, hgc3, hcc⟩ := row_at C7.len HOK.out.1 (by omega)
              have q0 := hcc k hk 0 (by omega)
              have q1 := hcc k hk 1 (by omega)
              have q2 := hcc k hk 2 (by omega)
              have q3 := hcc k hk 3 (by omega)
              have q4 := hcc k hk 4 (by omega)
              have q5 := hcc k hk 5 (by omega)
              rw [← HWQ.out.cell (p := ⟨gc, _, none⟩) hgc2] at q0 q1 q2 q3 q4 q5
              rw [hao] at y0
              clear hao
              rw [drop_map _ _ _ hk, orP_wc] at hPk
              obtain ⟨c, hcd⟩ : ∃ c, c = x.cl[k] := ⟨_, rfl⟩
              rw [← hcd] at q0 q1 q2 q3 q4 q5 hPk
              simp only [C7.cells, List.getElem?_cons_zero, List.getElem?_cons_succ, Nat.add_zero] at q0 q1 q2 q3 q4 q5
              clear hcc hcd
              obtain ⟨g2, rfl⟩ : ∃ g2, gk = g2 + 1 := ⟨gk - 1, by omega⟩
              have z1 : w.heap.size < wq.heap.size := by omega
              have z2 : wo.heap.size < wq.heap.size := by omega
              have z3 : gc < wq.heap.size := by omega
              obtain ⟨U, hU⟩ : ∃ U, unnamed vs.length (c.a0, c.a1, c.a2) (c.b0, c.b1, c.b2) = U := ⟨_, rfl⟩
              replace hPk : (if 0 ≤ U then ((3 : Nat), U) else orP (wc vs.length ((x.cl.map C7.ast).drop (k + 1))) (orP (wd vs.length [] (x.dl.map D7.ast)) (orP (Go.Proofs.YtkbmolodljenjaaDoor.wr vs.length ((rs.map R2.ast).drop (i + 1))) (0, 0)))) = Rest := by rw [← hU]; exact hPk
              have HU : Aside (unnamed vs.length (c.a0, c.a1, c.a2) (c.b0, c.b1, c.b2) = U) := hU
              have HPk : Aside (_ = Rest) := hPk
              clear hPk hU
              go_wp2_with fail
              go_region_held3 (fun w' => ∀ b o, b < wq.heap.size → w'.cell? ⟨b, o, none⟩ = wq.cell? ⟨b, o, none⟩)
                (first
                  | exact fun b o hb => (hbel.cell (p := ⟨b, o, none⟩) hb)
                  | exact fun _ _ _ => rfl
                  | go_keep)
                ((go_at_call 45; refine (unnamed_any vs.length (c.a0, c.a1, c.a2) (c.b0, c.b1, c.b2) _ _ _ _ _).mono ?_; rintro e w5 ⟨rfl, hbel⟩))
              have hU' := HU.out
              have hbel' : Below w3.heap.size w3 w5 := (HBQ.out.drew).trans (hbel.mono hqz)
              have HW5 : Aside (Below w3.heap.size w3 w5 ∧ Below w.heap.size w w5) := ⟨hbel', HWQ.out.drew.trans (hbel.mono (by show w.heap.size ≤ wq.heap.size; omega))⟩
              clear hbel hbel'
              by_cases hU0 : 0 ≤ U
              · have hRe : ((3 : Nat), U) = Rest := by have := HPk.out; rw [if_pos hU0] at this; exact this
                subst hRe
                go_wp2
                go_ret2
                exact ⟨rfl, HW5.out.2⟩
              · have hRe0 := HPk.out
                rw [if_neg hU0] at hRe0
                have HRe : Aside (_ = Rest) := hRe0
                clear hRe0
                go_wp2
                go_roundg g2
                case measure => exact Nat.lt_succ_self _
                case rel => exact ⟨k + 1, by go_num, by omega, HW5.out.1, HRe.out⟩
            · have hk' : ¬ (k : Int) < (x.cl.length : Int) := by omega
              have hPd : orP (wd vs.length ((x.dl.map D7.ast).take 0) ((x.dl.map D7.ast).drop 0)) (orP (Go.Proofs.YtkbmolodljenjaaDoor.wr vs.length ((rs.map R2.ast).drop (i + 1))) (0, 0)) = Rest := by
                rw [List.drop_eq_nil_of_le (by simp; omega)] at hPk; exact hPk
              have HPd : Aside (_ = Rest) := hPd
              clear hPk hPd
              go_wp2_with fail
              go_loopg [10] x.dl.length (fun gk kv wq => ∃ k : Nat, kv = .int .i64 k ∧ k + gk = x.dl.length ∧ Below w3.heap.size w3 wq ∧ orP (wd vs.length ((x.dl.map D7.ast).take k) ((x.dl.map D7.ast).drop k)) (orP (Go.Proofs.YtkbmolodljenjaaDoor.wr vs.length ((rs.map R2.ast).drop (i + 1))) (0, 0)) = Rest)
              case atStart => exact ⟨0, rfl, by omega, HBQ.out, HPd.out⟩
              case round =>
                clear HPd e0 e1 y0 y1 hqz HBQ HWQ
                generalize wr = wz at *
                obtain ⟨k2, rfl, hkk2, hbq, hPk⟩ := hrel
                have e0 := (hbq.cell (p := ⟨w.heap.size, 0, none⟩) (by show w.heap.size < w3.heap.size; omega)).trans b0
                have e1 := (hbq.cell (p := ⟨w.heap.size, 1, none⟩) (by show w.heap.size < w3.heap.size; omega)).trans b1
                have y0 := (hbq.cell (p := ⟨wo.heap.size, 0, none⟩) hxz).trans x0
                have y1 := (hbq.cell (p := ⟨wo.heap.size, 1, none⟩) hxz).trans x1
                have hqz : w3.heap.size ≤ wz.heap.size := hbq.size
                have HBQ : Aside (Below w3.heap.size w3 wz) := hbq
                have HWQ : Aside (Below w.heap.size w wz) := ((HB.out.trans (HBW.out.mono (by omega))).trans (HBX.out.mono (by omega))).trans (hbq.mono (by omega))
                clear hbq
                by_cases hk2 : k2 < x.dl.length
                · have hk2' : (k2 : Int) < (x.dl.length : Int) := by omega
                  have hrow := HWQ.out.ownsRow' HOK.out.2
                  rw [drop_map _ _ _ hk2, orP_wd, ← List.map_take] at hPk
                  obtain ⟨P2, hP2⟩ : ∃ P2, twiceP vs.length ((x.dl.take k2).map D7.ast) (x.dl[k2]).ast = P2 := ⟨_, rfl⟩
                  replace hPk : (if P2.1 = 0 then orP (wd vs.length ((x.dl.take k2).map D7.ast ++ [(x.dl[k2]).ast]) ((x.dl.map D7.ast).drop (k2 + 1))) (orP (Go.Proofs.YtkbmolodljenjaaDoor.wr vs.length ((rs.map R2.ast).drop (i + 1))) (0, 0)) else P2) = Rest := by rw [← hP2]; exact hPk
                  obtain ⟨g2, rfl⟩ : ∃ g2, gk = g2 + 1 := ⟨gk - 1, by omega⟩
                  have HPk : Aside (_ = Rest) := hPk
                  have HROW : Aside (wz.ownsRow base 128 7 x.vd x.dl.length (x.dl.flatMap D7.cells)) := hrow
                  have HP2 : Aside (twiceP vs.length ((x.dl.take k2).map D7.ast) (x.dl[k2]).ast = P2) := hP2
                  have hll2 := hll.2
                  clear hPk hrow hP2
                  go_wp2_with fail
                  refine (twice_any vs.length k2 x.dl _ _ _ x.ao' _ _ _ _ _ x.cap' base hk2 hll2 (by omega) HROW.out).mono ?_
                  rintro e w5 ⟨rfl, hbel⟩
                  rw [HP2.out]
                  have hbel' : Below w3.heap.size w3 w5 := HBQ.out.trans (hbel.mono hqz)
                  have HW5 : Aside (Below w3.heap.size w3 w5 ∧ Below w.heap.size w w5) := ⟨hbel', HWQ.out.trans (hbel.mono (by omega))⟩
                  clear hbel hbel'
                  by_cases hz : P2.1 = 0
                  · have hRe0 := HPk.out
                    rw [if_pos hz] at hRe0
                    have HRe : Aside (_ = Rest) := hRe0
                    clear hRe0
                    rw [hz]
                    clear HPk hz
                    go_wp2
                    go_roundg g2
                    case measure => exact Nat.lt_succ_self _
                    case rel =>
                      refine ⟨k2 + 1, by go_num, by omega, HW5.out.1, ?_⟩
                      rw [← HRe.out, ← List.map_take, List.take_succ_eq_append_getElem hk2, List.map_append]
                      rfl
                  · have hRe : P2 = Rest := by have := HPk.out; rw [if_neg hz] at this; exact this
                    subst hRe
                    have hz' : (((P2.1 : Nat) : Int) != 0) = true := by simp; omega
                    clear hz HPk
                    go_wp2
                    go_ret2
                    exact ⟨rfl, HW5.out.2⟩
                · have hk2' : ¬ (k2 : Int) < (x.dl.length : Int) := by omega
                  have HRe : Aside (orP (Go.Proofs.YtkbmolodljenjaaDoor.wr vs.length ((rs.map R2.ast).drop (i + 1))) (0, 0) = Rest) := by
                    have := hPk
                    rw [List.drop_eq_nil_of_le (by simp; omega)] at this
                    rw [wd] at this
                    exact this
                  have HBO : Aside (Below w1.heap.size w1 wz) := (HBW.out.trans (HBX.out.mono (by omega))).trans (HBQ.out.mono (by omega))
                  clear hPk
                  go_wp2
                  go_roundg g'
                  case measure => exact Nat.lt_succ_self _
                  case rel => exact ⟨i + 1, by go_num, by omega, HBO.out, HRe.out⟩
        · have hlt' : ¬ (i : Int) < (rs.length : Int) := by omega
          have hRe : ((0 : Nat), (0 : Int)) = Rest := by
            rw [List.drop_eq_nil_of_le (by simp; omega)] at hPi; exact hPi
          subst hRe
          have HBO : Aside (Below w.heap.size w wo) := HB.out.trans (HBW.out.mono (by omega))
          clear hPi
          go_wp2
          go_ret2
          exact ⟨rfl, HBO.out⟩
end
end Go.Proofs.YtkbmolodljenjaaDoor
