import Derived.Test.YtgoebckimmofoaaGreatDoorA6
import Derived.Test.YtgoebckimmofoaaGreatDoorA1
import Derived.Laws.IdiomStrings
import Derived.Deep.LoopGhost
import Derived.Maps.AppendAt
import Derived.RangeFuncBox
import Derived.Deep.RegionLaw
import Derived.Deep.AppendLies
import Derived.Deep.RegionHeld
import Derived.RangeFuncNested
import Derived.RangeFuncBound
import Derived.RangeFuncCalls
import Derived.RangeFuncLeaves
import Derived.Shelf.Abstract
import Derived.Shelf.RegionOpen
import Derived.OwnWalkIn
import Derived.TacticsInMore
import Derived.LoopNIn
import Derived.LoopIn
import Derived.Stop.RegionWithIn
/- What is wrong with a model: the document's walk over it. Our own text. -/
namespace Go.Proofs.YtgoebckimmofoaaGreatDoor
open Go.RowKit

end Go.Proofs.YtgoebckimmofoaaGreatDoor
namespace Go.RowKit
open Go.Proofs.YtgoebckimmofoaaGreatDoor
theorem Below.ownsRow' {w w' : World} (h : Below w.heap.size w w') {base e z n : Nat} {v : Value} {xs : List Value} (ho : w.ownsRow base e z v n xs) : w'.ownsRow base e z v n xs := by
  refine ⟨ho.1, ?_⟩
  rcases ho.2 with hn | ⟨g, cap, cur, rfl, hb, hg, r⟩
  · exact .inl hn
  · exact .inr ⟨g, cap, cur, rfl, hb, by rw [h.block g (lt_of_block hg)]; exact hg, r⟩
end Go.RowKit
namespace Go.Proofs.YtgoebckimmofoaaGreatDoor
open Go.RowKit

section
variable {w : World}
set_option maxRecDepth 100000 in
set_option maxHeartbeats 3200000 in
theorem wrong_any (ao aor : Option Addr) (cap capr base : Nat) (vs : List V3) (rs : List R2) (_hb : base ≤ w.heap.size) (h3 : vs.length ≤ 3) (h8 : rs.length ≤ 200)
    (hv : w.ownsRow base 139 3 (.slice ao vs.length cap) vs.length (vs.flatMap V3.cells)) (hr : w.ownsRow base 146 2 (.slice aor rs.length capr) rs.length (rs.flatMap R2.cells))
    (hOv : ∀ v ∈ vs, V3.Ok w base v) (hOr : ∀ x ∈ rs, R2.Ok w base x) :
    Calls Tryz.prog 54 #[.agg #[.slice ao vs.length cap, .slice aor rs.length capr]] w fun e w' => e = .returned (.tuple #[.int .i64 ((wrongP (vs.map V3.ast) (rs.map R2.ast)).1 : Nat), .int .i64 (wrongP (vs.map V3.ast) (rs.map R2.ast)).2]) ∧ Below w.heap.size w w' := by
  have hA := heap_alloc_new w (.cells #[.slice ao vs.length cap, .slice aor rs.length capr] 65)
  have hBel : Below w.heap.size w (w.alloc (.cells #[.slice ao vs.length cap, .slice aor rs.length capr] 65)) := (Below.refl _ _).alloc (Nat.le_refl _) _
  obtain ⟨n0, n1, nf⟩ := cell2 hA
  clear nf
  unfold wrongP
  rw [List.length_map]
  generalize hRest : orP (wr vs.length (rs.map R2.ast)) (0, 0) = Rest
  generalize hP : orP (wv (vs.map V3.ast)) Rest = P
  have HP : Aside (_ = P) := hP
  have HRest : Aside (_ = Rest) := hRest
  have HV : Aside (w.ownsRow base 139 3 (.slice ao vs.length cap) vs.length (vs.flatMap V3.cells)) := hv
  have HR : Aside (w.ownsRow base 146 2 (.slice aor rs.length capr) rs.length (rs.flatMap R2.cells)) := hr
  have HOV : Aside (∀ v ∈ vs, V3.Ok w base v) := hOv
  have HOR : Aside (∀ x ∈ rs, R2.Ok w base x) := hOr
  have HLC : Aside (∀ x ∈ rs, x.cl.length ≤ 9223372036854775807 ∧ x.dl.length ≤ 9223372036854775807) := fun x h => ⟨own_len (hOr x h).1, own_len (hOr x h).2⟩
  have HB : Aside (Below w.heap.size w (w.alloc (.cells #[.slice ao vs.length cap, .slice aor rs.length capr] 65))) := hBel
  clear hv hr hOv hOr hBel hP hRest hA
  go_enter Tryz.func54, Tryz.ntmps54
  go_wp2_with fail
  have hsz : w.heap.size < (w.alloc (.cells #[.slice ao vs.length cap, .slice aor rs.length capr] 65)).heap.size := by simp
  generalize w.alloc (.cells #[.slice ao vs.length cap, .slice aor rs.length capr] 65) = w1 at *
  go_loopg [4] vs.length (fun gk iv wr => ∃ i m : Nat, iv = .int .i64 i ∧ i + gk = vs.length ∧ wr = w1.drewN m ∧ orP (wv ((vs.map V3.ast).drop i)) Rest = P)
  case atStart => exact ⟨0, 0, rfl, by omega, rfl, HP.out⟩
  case round =>
    clear HP
    obtain ⟨i, m, rfl, hik, rfl, hPi⟩ := hrel
    by_cases hlt : i < vs.length
    · have hlt' : (i : Int) < (vs.length : Int) := by omega
      have i0 : (0 : Int) ≤ (i : Int) := by omega
      obtain ⟨gv, rfl, hgv1, hgv2, hgv3, hcv⟩ := row_at V3.len HV.out (by omega)
      have c0 := hcv i hlt 0 (by omega)
      have c1 := hcv i hlt 1 (by omega)
      have c2 := hcv i hlt 2 (by omega)
      rw [← HB.out.cell (p := ⟨gv, _, none⟩) hgv2] at c0 c1 c2
      have hok := HOV.out _ (List.getElem_mem hlt)
      rw [drop_map _ _ _ hlt, orP_wv] at hPi
      obtain ⟨v, hvd⟩ : ∃ v, v = vs[i] := ⟨_, rfl⟩
      rw [← hvd] at c0 c1 c2 hok hPi
      simp only [V3.cells, V3.vf, List.getElem?_cons_zero, List.getElem?_cons_succ, Nat.add_zero] at c0 c1 c2
      simp only [V3.ast] at hPi
      obtain ⟨hrow, hl5, hat⟩ := hok
      clear hcv hvd
      obtain ⟨g', rfl⟩ : ∃ g', gk = g' + 1 := ⟨gk - 1, by omega⟩
      have HPi : Aside (_ = P) := hPi
      have HRow : Aside (w.ownsRow base 3 1 v.vf v.l.length (ints v.l)) := hrow
      clear hPi hrow
      go_wp2_with fail
      go_loopg [5] v.l.length (fun gk kv wr => ∃ k m : Nat, kv = .int .i64 k ∧ k + gk = v.l.length ∧ wr = w1.drewN m ∧ orP (fb v.top v.at_ (v.l.drop k) k) (orP (wv ((vs.map V3.ast).drop (i + 1))) Rest) = P)
      case atStart => exact ⟨0, m, rfl, by omega, rfl, HPi.out⟩
      case round =>
        obtain ⟨k, m', rfl, hkk, rfl, hPk⟩ := hrel
        by_cases hk : k < v.l.length
        · have hk' : (k : Int) < (v.l.length : Int) := by omega
          have k0 : (0 : Int) ≤ (k : Int) := by omega
          obtain ⟨gf, hao, hgf1, hgf2, hgf3, hcf⟩ := ints_at HRow.out (by omega)
          have hck := hcf k hk
          rw [← HB.out.cell (p := ⟨gf, k, none⟩) hgf2] at hck
          rw [hao] at c1
          rw [List.drop_eq_getElem_cons hk, orP_fb] at hPk
          generalize v.l[k] = x at *
          obtain ⟨g2, rfl⟩ : ∃ g2, gk = g2 + 1 := ⟨gk - 1, by omega⟩
          by_cases hx : v.top < x
          · rw [if_pos hx] at hPk
            subst hPk
            have hx' : (v.top : Int) < (x : Int) := by omega
            go_wp2_with fail
            go_quiet (fail)
            go_wp2_with fail
            go_quiet (fail)
            go_wp2
            go_ret2
            refine ⟨?_, ?_⟩
            · first | rfl | (rw [show ((v.at_ + k : Nat) : Int) = (v.at_ : Int) + (k : Int) from by omega]; rfl)
            · first | exact below_drewN HB.out _ | exact below_drewN (below_drewN HB.out _) _ | exact below_drewN (below_drewN (below_drewN HB.out _) _) _
          · rw [if_neg hx] at hPk
            have hx' : ¬ (v.top : Int) < (x : Int) := by omega
            have HPk : Aside (_ = P) := hPk
            clear hPk
            go_wp2_with fail
            go_quiet (fail)
            go_wp2
            go_roundg g2
            case measure => exact Nat.lt_succ_self _
            case rel => exact ⟨k + 1, _, by go_num, by omega, rfl, HPk.out⟩
        · have hk' : ¬ (k : Int) < (v.l.length : Int) := by omega
          have hPk' : orP (wv ((vs.map V3.ast).drop (i + 1))) Rest = P := by
            rw [List.drop_eq_nil_of_le (by omega)] at hPk; exact hPk
          have HPk : Aside (_ = P) := hPk'
          clear hPk hPk'
          go_wp2
          go_roundg g'
          case measure => exact Nat.lt_succ_self _
          case rel => exact ⟨i + 1, _, by go_num, by omega, rfl, HPk.out⟩
    · have hlt' : ¬ (i : Int) < (vs.length : Int) := by omega
      have hPr : Rest = P := by
        rw [List.drop_eq_nil_of_le (by simp; omega)] at hPi; exact hPi
      subst hPr
      clear hPi
      go_wp2_with fail
      have hsz1 : (w1.drewN m).heap.size = w1.heap.size := rfl
      have HB1 : Aside (Below w1.heap.size w1 (w1.drewN m)) := below_drewN (Below.refl _ _) m
      clear hsz1
      generalize w1.drewN m = w2 at *
      go_loopg [6] rs.length (fun gk iv wr => ∃ i : Nat, iv = .int .i64 i ∧ i + gk = rs.length ∧ Below w1.heap.size w1 wr ∧ orP (Go.Proofs.YtgoebckimmofoaaGreatDoor.wr vs.length ((rs.map R2.ast).drop i)) (0, 0) = Rest)
      case atStart => exact ⟨0, rfl, by omega, HB1.out, HRest.out⟩
      case round =>
        clear HRest HB1
        generalize wr = wo at *
        obtain ⟨i, rfl, hik, hbw, hPi⟩ := hrel
        have a0 := (hbw.cell (p := ⟨w.heap.size, 0, none⟩) hsz).trans n0
        have a1 := (hbw.cell (p := ⟨w.heap.size, 1, none⟩) hsz).trans n1
        have hwz : w1.heap.size ≤ wo.heap.size := hbw.size
        have HBW : Aside (Below w1.heap.size w1 wo) := hbw
        clear hbw
        by_cases hlt : i < rs.length
        · have hlt' : (i : Int) < (rs.length : Int) := by omega
          have i0 : (0 : Int) ≤ (i : Int) := by omega
          obtain ⟨gr, rfl, hgr1, hgr2, hgr3, hcr⟩ := row_at R2.len HR.out (by omega)
          have c0 := hcr i hlt 0 (by omega)
          have c1 := hcr i hlt 1 (by omega)
          rw [← HB.out.cell (p := ⟨gr, _, none⟩) hgr2, ← HBW.out.cell (p := ⟨gr, _, none⟩) (by show gr < w1.heap.size; omega)] at c0 c1
          have hok := HOR.out _ (List.getElem_mem hlt)
          have hll := HLC.out _ (List.getElem_mem hlt)
          rw [drop_map _ _ _ hlt, orP_wr] at hPi
          obtain ⟨x, hxd⟩ : ∃ x, x = rs[i] := ⟨_, rfl⟩
          rw [← hxd] at c0 c1 hok hPi hll
          simp only [R2.cells, R2.vi, R2.vd, List.getElem?_cons_zero, List.getElem?_cons_succ, Nat.add_zero] at c0 c1
          simp only [R2.ast] at hPi
          clear hcr hxd
          obtain ⟨g', rfl⟩ : ∃ g', gk = g' + 1 := ⟨gk - 1, by omega⟩
          have HPi : Aside (_ = Rest) := hPi
          have HOK : Aside (R2.Ok w base x) := hok
          have hX := heap_alloc_new wo (.cells #[.slice x.ao x.cl.length x.cap, .slice x.ao' x.dl.length x.cap'] 146)
          obtain ⟨x0, x1, xf⟩ := cell2 hX
          have HBX : Aside (Below wo.heap.size wo (wo.alloc (.cells #[.slice x.ao x.cl.length x.cap, .slice x.ao' x.dl.length x.cap'] 146))) := (Below.refl _ _).alloc (Nat.le_refl _) _
          have hxz : wo.heap.size < (wo.alloc (.cells #[.slice x.ao x.cl.length x.cap, .slice x.ao' x.dl.length x.cap'] 146)).heap.size := by simp
          clear hPi hok hX xf
          go_wp2_with fail
          have b0 := (HBX.out.cell (p := ⟨w.heap.size, 0, none⟩) (by show w.heap.size < wo.heap.size; omega)).trans a0
          have b1 := (HBX.out.cell (p := ⟨w.heap.size, 1, none⟩) (by show w.heap.size < wo.heap.size; omega)).trans a1
          generalize wo.alloc (.cells #[.slice x.ao x.cl.length x.cap, .slice x.ao' x.dl.length x.cap'] 146) = w3 at *
          clear c0 c1 a0 a1
          go_loopg [8] x.cl.length (fun gk kv wq => ∃ k : Nat, kv = .int .i64 k ∧ k + gk = x.cl.length ∧ Below w3.heap.size w3 wq ∧ orP (wc vs.length ((x.cl.map C7.ast).drop k)) (orP (wd vs.length [] (x.dl.map D7.ast)) (orP (Go.Proofs.YtgoebckimmofoaaGreatDoor.wr vs.length ((rs.map R2.ast).drop (i + 1))) (0, 0))) = Rest)
          case atStart => exact ⟨0, rfl, by omega, Below.refl _ _, HPi.out⟩
          case round =>
            clear HPi
            generalize wr = wq at *
            obtain ⟨k, rfl, hkk, hbq, hPk⟩ := hrel
            have e0 := (hbq.cell (p := ⟨w.heap.size, 0, none⟩) (by show w.heap.size < w3.heap.size; omega)).trans b0
            have e1 := (hbq.cell (p := ⟨w.heap.size, 1, none⟩) (by show w.heap.size < w3.heap.size; omega)).trans b1
            have y0 := (hbq.cell (p := ⟨wo.heap.size, 0, none⟩) hxz).trans x0
            have y1 := (hbq.cell (p := ⟨wo.heap.size, 1, none⟩) hxz).trans x1
            have hqz : w3.heap.size ≤ wq.heap.size := hbq.size
            have HBQ : Aside (Below w3.heap.size w3 wq) := hbq
            have HWQ : Aside (Below w.heap.size w wq) := ((HB.out.trans (HBW.out.mono (by omega))).trans (HBX.out.mono (by omega))).trans (hbq.mono (by omega))
            clear hbq
            by_cases hk : k < x.cl.length
            · have hk' : (k : Int) < (x.cl.length : Int) := by omega
              have k0 : (0 : Int) ≤ (k : Int) := by omega
              obtain ⟨gc, hao, hgc1, hgc2, hgc3, hcc⟩ := row_at C7.len HOK.out.1 (by omega)
              have q0 := hcc k hk 0 (by omega)
              have q1 := hcc k hk 1 (by omega)
              have q2 := hcc k hk 2 (by omega)
              have q3 := hcc k hk 3 (by omega)
              have q4 := hcc k hk 4 (by omega)
              have q5 := hcc k hk 5 (by omega)
              rw [← HWQ.out.cell (p := ⟨gc, _, none⟩) hgc2] at q0 q1 q2 q3 q4 q5
              rw [hao] at y0
              clear hao
              rw [drop_map _ _ _ hk, orP_wc] at hPk
              obtain ⟨c, hcd⟩ : ∃ c, c = x.cl[k] := ⟨_, rfl⟩
              rw [← hcd] at q0 q1 q2 q3 q4 q5 hPk
              simp only [C7.cells, List.getElem?_cons_zero, List.getElem?_cons_succ, Nat.add_zero] at q0 q1 q2 q3 q4 q5
              clear hcc hcd
              obtain ⟨g2, rfl⟩ : ∃ g2, gk = g2 + 1 := ⟨gk - 1, by omega⟩
              have z1 : w.heap.size < wq.heap.size := by omega
              have z2 : wo.heap.size < wq.heap.size := by omega
              have z3 : gc < wq.heap.size := by omega
              obtain ⟨U, hU⟩ : ∃ U, unnamed vs.length (c.a0, c.a1, c.a2) (c.b0, c.b1, c.b2) = U := ⟨_, rfl⟩
              replace hPk : (if 0 ≤ U then ((3 : Nat), U) else orP (wc vs.length ((x.cl.map C7.ast).drop (k + 1))) (orP (wd vs.length [] (x.dl.map D7.ast)) (orP (Go.Proofs.YtgoebckimmofoaaGreatDoor.wr vs.length ((rs.map R2.ast).drop (i + 1))) (0, 0)))) = Rest := by rw [← hU]; exact hPk
              have HU : Aside (unnamed vs.length (c.a0, c.a1, c.a2) (c.b0, c.b1, c.b2) = U) := hU
              have HPk : Aside (_ = Rest) := hPk
              clear hPk hU
              go_wp2_with fail
              go_region_held3 (fun w' => ∀ b o, b < wq.heap.size → w'.cell? ⟨b, o, none⟩ = wq.cell? ⟨b, o, none⟩)
                (first
                  | exact fun b o hb => (hbel.cell (p := ⟨b, o, none⟩) hb)
                  | exact fun _ _ _ => rfl
                  | go_keep)
                ((go_at_call 66; refine (unnamed_any vs.length (c.a0, c.a1, c.a2) (c.b0, c.b1, c.b2) _ _ _ _ _).mono ?_; rintro e w5 ⟨rfl, hbel⟩))
              have hU' := HU.out
              have hbel' : Below w3.heap.size w3 w5 := (HBQ.out.drew).trans (hbel.mono hqz)
              have HW5 : Aside (Below w3.heap.size w3 w5 ∧ Below w.heap.size w w5) := ⟨hbel', HWQ.out.drew.trans (hbel.mono (by show w.heap.size ≤ wq.heap.size; omega))⟩
              clear hbel hbel'
              by_cases hU0 : 0 ≤ U
              · have hRe : ((3 : Nat), U) = Rest := by have := HPk.out; rw [if_pos hU0] at this; exact this
                subst hRe
                go_wp2
                go_ret2
                exact ⟨rfl, HW5.out.2⟩
              · have hRe0 := HPk.out
                rw [if_neg hU0] at hRe0
                have HRe : Aside (_ = Rest) := hRe0
                clear hRe0
                go_wp2
                go_roundg g2
                case measure => exact Nat.lt_succ_self _
                case rel => exact ⟨k + 1, by go_num, by omega, HW5.out.1, HRe.out⟩
            · have hk' : ¬ (k : Int) < (x.cl.length : Int) := by omega
              have hPd : orP (wd vs.length ((x.dl.map D7.ast).take 0) ((x.dl.map D7.ast).drop 0)) (orP (Go.Proofs.YtgoebckimmofoaaGreatDoor.wr vs.length ((rs.map R2.ast).drop (i + 1))) (0, 0)) = Rest := by
                rw [List.drop_eq_nil_of_le (by simp; omega)] at hPk; exact hPk
              have HPd : Aside (_ = Rest) := hPd
              clear hPk hPd
              go_wp2_with fail
              go_loopg [10] x.dl.length (fun gk kv wq => ∃ k : Nat, kv = .int .i64 k ∧ k + gk = x.dl.length ∧ Below w3.heap.size w3 wq ∧ orP (wd vs.length ((x.dl.map D7.ast).take k) ((x.dl.map D7.ast).drop k)) (orP (Go.Proofs.YtgoebckimmofoaaGreatDoor.wr vs.length ((rs.map R2.ast).drop (i + 1))) (0, 0)) = Rest)
              case atStart => exact ⟨0, rfl, by omega, HBQ.out, HPd.out⟩
              case round =>
                clear HPd e0 e1 y0 y1 hqz HBQ HWQ
                generalize wr = wz at *
                obtain ⟨k2, rfl, hkk2, hbq, hPk⟩ := hrel
                have e0 := (hbq.cell (p := ⟨w.heap.size, 0, none⟩) (by show w.heap.size < w3.heap.size; omega)).trans b0
                have e1 := (hbq.cell (p := ⟨w.heap.size, 1, none⟩) (by show w.heap.size < w3.heap.size; omega)).trans b1
                have y0 := (hbq.cell (p := ⟨wo.heap.size, 0, none⟩) hxz).trans x0
                have y1 := (hbq.cell (p := ⟨wo.heap.size, 1, none⟩) hxz).trans x1
                have hqz : w3.heap.size ≤ wz.heap.size := hbq.size
                have HBQ : Aside (Below w3.heap.size w3 wz) := hbq
                have HWQ : Aside (Below w.heap.size w wz) := ((HB.out.trans (HBW.out.mono (by omega))).trans (HBX.out.mono (by omega))).trans (hbq.mono (by omega))
                clear hbq
                by_cases hk2 : k2 < x.dl.length
                · have hk2' : (k2 : Int) < (x.dl.length : Int) := by omega
                  have hrow := HWQ.out.ownsRow' HOK.out.2
                  rw [drop_map _ _ _ hk2, orP_wd, ← List.map_take] at hPk
                  obtain ⟨P2, hP2⟩ : ∃ P2, twiceP vs.length ((x.dl.take k2).map D7.ast) (x.dl[k2]).ast = P2 := ⟨_, rfl⟩
                  replace hPk : (if P2.1 = 0 then orP (wd vs.length ((x.dl.take k2).map D7.ast ++ [(x.dl[k2]).ast]) ((x.dl.map D7.ast).drop (k2 + 1))) (orP (Go.Proofs.YtgoebckimmofoaaGreatDoor.wr vs.length ((rs.map R2.ast).drop (i + 1))) (0, 0)) else P2) = Rest := by rw [← hP2]; exact hPk
                  obtain ⟨g2, rfl⟩ : ∃ g2, gk = g2 + 1 := ⟨gk - 1, by omega⟩
                  have HPk : Aside (_ = Rest) := hPk
                  have HROW : Aside (wz.ownsRow base 198 7 x.vd x.dl.length (x.dl.flatMap D7.cells)) := hrow
                  have HP2 : Aside (twiceP vs.length ((x.dl.take k2).map D7.ast) (x.dl[k2]).ast = P2) := hP2
                  have hll2 := hll.2
                  clear hPk hrow hP2
                  go_wp2_with fail
                  refine (twice_any vs.length k2 x.dl _ _ _ x.ao' _ _ _ _ _ x.cap' base hk2 hll2 (by omega) HROW.out).mono ?_
                  rintro e w5 ⟨rfl, hbel⟩
                  rw [HP2.out]
                  have hbel' : Below w3.heap.size w3 w5 := HBQ.out.trans (hbel.mono hqz)
                  have HW5 : Aside (Below w3.heap.size w3 w5 ∧ Below w.heap.size w w5) := ⟨hbel', HWQ.out.trans (hbel.mono (by omega))⟩
                  clear hbel hbel'
                  by_cases hz : P2.1 = 0
                  · have hRe0 := HPk.out
                    rw [if_pos hz] at hRe0
                    have HRe : Aside (_ = Rest) := hRe0
                    clear hRe0
                    rw [hz]
                    clear HPk hz
                    go_wp2
                    go_roundg g2
                    case measure => exact Nat.lt_succ_self _
                    case rel =>
                      refine ⟨k2 + 1, by go_num, by omega, HW5.out.1, ?_⟩
                      rw [← HRe.out, ← List.map_take, List.take_succ_eq_append_getElem hk2, List.map_append]
                      rfl
                  · have hRe : P2 = Rest := by have := HPk.out; rw [if_neg hz] at this; exact this
                    subst hRe
                    have hz' : (((P2.1 : Nat) : Int) != 0) = true := by simp; omega
                    clear hz HPk
                    go_wp2
                    go_ret2
                    exact ⟨rfl, HW5.out.2⟩
                · have hk2' : ¬ (k2 : Int) < (x.dl.length : Int) := by omega
                  have HRe : Aside (orP (Go.Proofs.YtgoebckimmofoaaGreatDoor.wr vs.length ((rs.map R2.ast).drop (i + 1))) (0, 0) = Rest) := by
                    have := hPk
                    rw [List.drop_eq_nil_of_le (by simp; omega)] at this
                    rw [wd] at this
                    exact this
                  have HBO : Aside (Below w1.heap.size w1 wz) := (HBW.out.trans (HBX.out.mono (by omega))).trans (HBQ.out.mono (by omega))
                  clear hPk
                  go_wp2
                  go_roundg g'
                  case measure => exact Nat.lt_succ_self _
                  case rel => exact ⟨i + 1, by go_num, by omega, HBO.out, HRe.out⟩
        · have hlt' : ¬ (i : Int) < (rs.length : Int) := by omega
          have hRe : ((0 : Nat), (0 : Int)) = Rest := by
            rw [List.drop_eq_nil_of_le (by simp; omega)] at hPi; exact hPi
          subst hRe
          have HBO : Aside (Below w.heap.size w wo) := HB.out.trans (HBW.out.mono (by omega))
          clear hPi
          go_wp2
          go_ret2
          exact ⟨rfl, HBO.out⟩
end
end Go.Proofs.YtgoebckimmofoaaGreatDoor

/- A state's text. Our own text. -/
namespace Go.Proofs.YtgoebckimmofoaaGreatDoor
open Go.RowKit Go.Lib

end Go.Proofs.YtgoebckimmofoaaGreatDoor

/- What the reference's loops make, pure. Our own text. -/
namespace Go.Proofs.YtgoebckimmofoaaGreatDoor

end Go.Proofs.YtgoebckimmofoaaGreatDoor

namespace Go.Proofs.YtgoebckimmofoaaGreatDoor
open Go.RowKit

section
variable {w : World}
end
end Go.Proofs.YtgoebckimmofoaaGreatDoor

/- The reference's first states. Our own text. -/
namespace Go.Proofs.YtgoebckimmofoaaGreatDoor
open Go.RowKit

section
variable {w : World}
end
end Go.Proofs.YtgoebckimmofoaaGreatDoor

namespace Go.Proofs.YtgoebckimmofoaaGreatDoor
open Go.RowKit

end Go.Proofs.YtgoebckimmofoaaGreatDoor
namespace Go.RowKit
open Go.Proofs.YtgoebckimmofoaaGreatDoor
theorem Below.okV {w w' : World} (h : Below w.heap.size w w') {base : Nat} {v : V3} (ho : V3.Ok w base v) : V3.Ok w' base v := ⟨h.ownsRow' ho.1, ho.2⟩
end Go.RowKit
namespace Go.Proofs.YtgoebckimmofoaaGreatDoor
open Go.RowKit
section
variable {w : World}
end
end Go.Proofs.YtgoebckimmofoaaGreatDoor

/- The reference: what a term is worth, whether a condition holds, whether a rule may and makes. Our own text. -/
namespace Go.Proofs.YtgoebckimmofoaaGreatDoor
open Go.RowKit

def wor (t0 t1 : Int) (d : List Nat) : Int := if t0 < 0 then t1 else ((d.getD t0.toNat 0 : Nat) : Int)
def soC (c : C7) (d : List Nat) : Bool := if c.op = 61 then wor c.a0 c.a1 d == wor c.b0 c.b1 d else if c.op = 35 then wor c.a0 c.a1 d != wor c.b0 c.b1 d else decide (wor c.a0 c.a1 d < wor c.b0 c.b1 d)
section
variable {w : World}
/-- A condition as it is handed on. -/
def C7.agg (c : C7) : Value := .agg #[.int .i64 c.a0, .int .i64 c.a1, .int .i64 c.a2, .int .i64 c.b0, .int .i64 c.b1, .int .i64 c.b2, .int .u8 c.op]
end
end Go.Proofs.YtgoebckimmofoaaGreatDoor

namespace Go.Proofs.YtgoebckimmofoaaGreatDoor
open Go.RowKit

section
variable {w : World}
end
end Go.Proofs.YtgoebckimmofoaaGreatDoor

/- The reference: whether a rule makes a state of another. Our own text. -/
namespace Go.Proofs.YtgoebckimmofoaaGreatDoor
open Go.RowKit

section
variable {w : World}
end
end Go.Proofs.YtgoebckimmofoaaGreatDoor

namespace Go.Proofs.YtgoebckimmofoaaGreatDoor
open Go.RowKit

end Go.Proofs.YtgoebckimmofoaaGreatDoor
namespace Go.RowKit
open Go.Proofs.YtgoebckimmofoaaGreatDoor
theorem Below.okR {w w' : World} (h : Below w.heap.size w w') {base : Nat} {v : R2} (ho : R2.Ok w base v) : R2.Ok w' base v := ⟨h.ownsRow' ho.1, h.ownsRow' ho.2⟩
end Go.RowKit
namespace Go.Proofs.YtgoebckimmofoaaGreatDoor
open Go.RowKit

section
variable {w : World}
end
end Go.Proofs.YtgoebckimmofoaaGreatDoor

/- First states: the two lists are the same. Pure. Our own text. -/
namespace Go.Proofs.YtgoebckimmofoaaGreatDoor

end Go.Proofs.YtgoebckimmofoaaGreatDoor

namespace Go.Proofs.YtgoebckimmofoaaGreatDoor

/-- Changes, one behind the other, of different variables. -/
def chF (ds : List (Nat × Nat)) (m : Nat) : Nat := ds.foldl (fun made d => spr made d.1 d.2) m
theorem chF_lt : ∀ (ds : List (Nat × Nat)) (m : Nat), (∀ d ∈ ds, d.1 < 3) → m < 2 ^ 64 → chF ds m < 2 ^ 64
  | [], _, _, h => h
  | d :: ds, m, h3, _ => chF_lt ds (spr m d.1 d.2) (fun e he => h3 e (by simp [he])) (spr_lt (h3 d (by simp)))

/-! What the text says, of a state's number. -/
def tmV (t : Tm) (x : Nat) : Nat := if t.1 < 0 then t.2.1.toNat else dig x t.1.toNat
def cmpP (op : Nat) (a b : Nat) : Bool := if op = 61 then a == b else if op = 35 then a != b else decide (a < b)
def cdP (s : ByteArray) (c : Tm × Tm) (x : Nat) : Bool := cmpP (byteAt s (c.1.2.2.toNat + 1)) (tmV c.1 x) (tmV c.2 x)
def toP (s : ByteArray) (d : Chg) (count x : Nat) : Nat := match d.2.2.1 with
  | true => 2 ^ count - 1
  | false => 2 ^ ((tmV d.2.2.2 x + (moreAt s false d.2.2.2.2.2).toNat) % count)
def dsP (s : ByteArray) (G : Nat → Nat) (l : List Chg) (x : Nat) : List (Nat × Nat) := l.map (fun d => (d.1.toNat, toP s d (G d.1.toNat + 1) x))
def ruP (s : ByteArray) (G : Nat → Nat) (r : RA) (x : Nat) : Nat := if r.1.all (fun c => cdP s c x) then chF (dsP s G r.2 x) (2 ^ x) else 0
theorem cmpP_same {op A B : Int} {o a b : Nat} (ho : op = (o : Int)) (ha : A = (a : Int)) (hb : B = (b : Int)) : (if op = 61 then A == B else if op = 35 then A != B else decide (A < B)) = cmpP o a b := by
  subst ho ha hb
  unfold cmpP
  by_cases h1 : o = 61
  · rw [if_pos (by omega), if_pos h1, Bool.eq_iff_iff]; simp; omega
  · rw [if_neg (by omega), if_neg h1]
    by_cases h2 : o = 35
    · rw [if_pos (by omega), if_pos h2, Bool.eq_iff_iff]; simp; omega
    · rw [if_neg (by omega), if_neg h2, Bool.eq_iff_iff]; simp
/-! Makes. -/
end Go.Proofs.YtgoebckimmofoaaGreatDoor

/- The iterators over sets. Our own text. -/
namespace Go.Proofs.YtgoebckimmofoaaGreatDoor
open Go.RowKit Go.Shelf Go.Lib
attribute [local go_sem] Oper.semAt_some

theorem and_pred_lt {m : Nat} (h : m < 18446744073709551616) : m &&& (m - 1) < 18446744073709551616 := Nat.lt_of_le_of_lt Nat.and_le_left h
theorem and_u64 {m : Nat} (h0 : m ≠ 0) (h : m < 18446744073709551616) : bits .and .u64 (m : Int) ((m : Int) - 1) = ((m &&& (m - 1) : Nat) : Int) := by
  have e : (m : Int) - 1 = ((m - 1 : Nat) : Int) := by omega
  rw [e, bits_and_u64_nat _ _ h (by omega)]
/-- What a set's number lists. -/
def memOf (v : Value) : List (Fin 64) := match v with
  | .int _ z => mem z.toNat
  | _ => []

theorem members35 (m : Nat) (w : World) : Calls Tryz.prog 47 #[.int .u64 m] w fun e w' => e = .returned (.func (.func 79) #[] #[.pointer (some ⟨w.heap.size, 0, none⟩)]) ∧ w' = w.alloc (.cells #[.int .u64 m] 57) := by
  go_enter Tryz.func47, Tryz.ntmps47
  go_wp2
  go_ret
  exact ⟨rfl, rfl⟩
theorem members56 (m : Nat) (w : World) : Calls Tryz.prog 83 #[.int .u8 m] w fun e w' => e = .returned (.func (.func 117) #[] #[.pointer (some ⟨w.heap.size, 0, none⟩)]) ∧ w' = w.alloc (.cells #[.int .u8 m] 107) := by
  go_enter Tryz.func83, Tryz.ntmps83
  go_wp2
  go_ret
  exact ⟨rfl, rfl⟩

set_option maxRecDepth 100000 in
set_option maxHeartbeats 1000000 in
theorem mem52_in (n : Nat) (hn : 1 ≤ n) (l B n₀ m : Nat) (hm : m < 18446744073709551616) (h0n : 0 < n₀) (J Jx : List (Fin 64) → World → Prop)
    (hY : ∀ pre (x : Fin 64) W, J pre W → pre.length < 64 → YieldAt Fence.wide (n - 1) Tryz.prog l #[.int .i64 (x.val : Nat)] W fun e W' =>
      (e = .returned (.bool true) ∧ J (pre ++ [x]) W' ∧ Below n₀ W W') ∨ (e = .returned (.bool false) ∧ Jx (pre ++ [x]) W'))
    (W : World) (hB : W.cell? ⟨B, 0, none⟩ = some (.int .u64 m)) (hT : Tab W) (hJ0 : J [] W) :
    CallsIn Fence.wide n Tryz.prog 79 #[.func (.yield l) #[] #[], .pointer (some ⟨B, 0, none⟩)] W fun e W' => (∃ v, e = .returned v) ∧
      ((∃ ys, ys = mem m ∧ J ys W') ∨ (∃ pre, pre <+: mem m ∧ Jx pre W')) := by
  refine callsIn_of_wp Tryz.func79 rfl trivial ?_ rfl
  simp only [Tryz.ntmps79, List.size_toArray, List.length_cons, List.length_nil, Nat.reduceAdd, Nat.reduceSub, Array.replicate_succ, Array.replicate_zero, List.push_toArray, List.append_toArray, List.nil_append, List.cons_append]
  gi_wp2
  gi_loopw [3] (fun p wr => ∃ (pre : List (Fin 64)) (r : Nat), p = .int .u64 r ∧ r < 18446744073709551616 ∧ mem m = pre ++ mem r ∧ Tab wr ∧ J pre wr)
    (fun p _ => (memOf p).length)
  case atStart =>
    exact ⟨[], m, rfl, hm, rfl, hT, hJ0⟩
  case round =>
    obtain ⟨pre, r, rfl, hr, hx, hTr, hJr⟩ := hrel
    by_cases hr0 : r = 0
    · subst hr0
      gi_wp2
      go_end0
      exact ⟨⟨_, rfl⟩, .inl ⟨pre, by rw [hx, mem_zero]; simp, hJr⟩⟩
    · have hst := mem_step r hr0 (by rw [p64]; exact hr)
      have hlow := (low_spec r hr0 (by rw [p64]; exact hr)).1
      generalize hxe : (⟨ctz 64 r, hlow⟩ : Fin 64) = x at hst
      have hxv : ctz 64 r = x.val := by rw [← hxe]
      have hlen : pre.length < 64 := by
        have := mem_len m
        rw [hx, hst] at this
        simp at this; omega
      obtain ⟨fn, tmps, assign, body, hy, hR⟩ := hY pre x wr hJr hlen
      have hne : ((r : Int) == 0) = false := by simp; omega
      have HY : Put (_ = _) := ⟨hxv⟩
      have HS : Put (_ = _) := ⟨hst⟩
      have HA : Put (_ = _) := ⟨and_u64 hr0 hr⟩
      have HX : Put (_ = _) := ⟨hx⟩
      clear hxv hst hx hxe
      have htz := tz_any r hr0 hr wr hTr
      rw [HY.out] at htz
      gi_wp2
      refine ⟨trivial, ?_⟩
      refine (callsIn_wide.2 htz).mono ?_
      rintro e w' ⟨rfl, rfl⟩
      gi_wp2
      refine hR.mono ?_
      rintro e W3 (⟨rfl, hJ3, hk3⟩ | ⟨rfl, hJx3⟩)
      · gi_wp2
        go_roundw
        case rel => exact ⟨pre ++ [x], r &&& (r - 1), by rw [HA.out], and_pred_lt hr, by rw [HX.out, HS.out]; simp, hTr.below hk3 h0n, hJ3⟩
        case measure =>
          show (memOf (.int .u64 (bits BinOp.and IntKind.u64 (r : Int) ((r : Int) - 1)))).length < (memOf (.int .u64 (r : Int))).length
          rw [HA.out]
          show (mem (r &&& (r - 1))).length < (mem r).length
          rw [HS.out]; simp
      · gi_wp2
        refine bodyPost_ret (results_none rfl _ _ _) rfl ?_
        exact ⟨⟨_, rfl⟩, .inr ⟨pre ++ [x], ⟨mem (r &&& (r - 1)), by rw [HX.out, HS.out]; simp⟩, hJx3⟩⟩

theorem and_pred16 : ∀ m : Fin 16, m.val ≠ 0 → m.val &&& (m.val - 1) < 16 ∧ bits .and .u8 (m.val : Int) ((m.val : Int) - 1) = ((m.val &&& (m.val - 1) : Nat) : Int) := by decide +kernel
/-- What a small set's number lists. -/
def mem4Of (v : Value) : List (Fin 4) := match v with
  | .int _ z => mem4 z.toNat
  | _ => []

set_option maxRecDepth 100000 in
set_option maxHeartbeats 1000000 in
theorem mem74_in (n : Nat) (hn : 1 ≤ n) (l B n₀ m : Nat) (hm : m < 16) (h0n : 0 < n₀) (J Jx : List (Fin 4) → World → Prop)
    (hY : ∀ pre (x : Fin 4) W, J pre W → pre.length < 4 → YieldAt Fence.wide (n - 1) Tryz.prog l #[.int .i64 (x.val : Nat)] W fun e W' =>
      (e = .returned (.bool true) ∧ J (pre ++ [x]) W' ∧ Below n₀ W W') ∨ (e = .returned (.bool false) ∧ Jx (pre ++ [x]) W'))
    (W : World) (hB : W.cell? ⟨B, 0, none⟩ = some (.int .u8 m)) (hT : Tab W) (hJ0 : J [] W) :
    CallsIn Fence.wide n Tryz.prog 117 #[.func (.yield l) #[] #[], .pointer (some ⟨B, 0, none⟩)] W fun e W' => (∃ v, e = .returned v) ∧
      ((∃ ys, ys = mem4 m ∧ J ys W') ∨ (∃ pre, pre <+: mem4 m ∧ Jx pre W')) := by
  refine callsIn_of_wp Tryz.func117 rfl trivial ?_ rfl
  simp only [Tryz.ntmps117, List.size_toArray, List.length_cons, List.length_nil, Nat.reduceAdd, Nat.reduceSub, Array.replicate_succ, Array.replicate_zero, List.push_toArray, List.append_toArray, List.nil_append, List.cons_append]
  gi_wp2
  gi_loopw [3] (fun p wr => ∃ (pre : List (Fin 4)) (r : Nat), p = .int .u8 r ∧ r < 16 ∧ mem4 m = pre ++ mem4 r ∧ Tab wr ∧ J pre wr)
    (fun p _ => (mem4Of p).length)
  case atStart =>
    exact ⟨[], m, rfl, hm, rfl, hT, hJ0⟩
  case round =>
    obtain ⟨pre, r, rfl, hr, hx, hTr, hJr⟩ := hrel
    by_cases hr0 : r = 0
    · subst hr0
      gi_wp2
      go_end0
      exact ⟨⟨_, rfl⟩, .inl ⟨pre, by rw [hx, mem4_zero]; simp, hJr⟩⟩
    · obtain ⟨hlow, hst⟩ := mem4_step r hr0 hr
      obtain ⟨hal, haa⟩ := and_pred16 ⟨r, hr⟩ hr0
      simp only at hal haa
      generalize hxe : (⟨ctz 64 r, hlow⟩ : Fin 4) = x at hst
      have hxv : ctz 64 r = x.val := by rw [← hxe]
      have hlen : pre.length < 4 := by
        have := mem4_len m
        rw [hx, hst] at this
        simp at this; omega
      obtain ⟨fn, tmps, assign, body, hy, hR⟩ := hY pre x wr hJr hlen
      have hne : ((r : Int) == 0) = false := by simp; omega
      have hwr : IntKind.u64.wrap (r : Int) = (r : Int) := by rw [wrap_u64]; omega
      have HY : Put (_ = _) := ⟨hxv⟩
      have HS : Put (_ = _) := ⟨hst⟩
      have HA : Put (_ = _) := ⟨haa⟩
      have HX : Put (_ = _) := ⟨hx⟩
      clear hxv hst hx hxe haa
      have htz := tz_any r hr0 (by omega) wr hTr
      rw [HY.out] at htz
      gi_wp2
      refine ⟨trivial, ?_⟩
      refine (callsIn_wide.2 htz).mono ?_
      rintro e w' ⟨rfl, rfl⟩
      gi_wp2
      refine hR.mono ?_
      rintro e W3 (⟨rfl, hJ3, hk3⟩ | ⟨rfl, hJx3⟩)
      · gi_wp2
        go_roundw
        case rel => exact ⟨pre ++ [x], r &&& (r - 1), by rw [HA.out], hal, by rw [HX.out, HS.out]; simp, hTr.below hk3 h0n, hJ3⟩
        case measure =>
          show (mem4Of (.int .u8 (bits BinOp.and IntKind.u8 (r : Int) ((r : Int) - 1)))).length < (mem4Of (.int .u8 (r : Int))).length
          rw [HA.out]
          show (mem4 (r &&& (r - 1))).length < (mem4 r).length
          rw [HS.out]; simp
      · gi_wp2
        refine bodyPost_ret (results_none rfl _ _ _) rfl ?_
        exact ⟨⟨_, rfl⟩, .inr ⟨pre ++ [x], ⟨mem4 (r &&& (r - 1)), by rw [HX.out, HS.out]; simp⟩, hJx3⟩⟩

theorem stops52 (n : Nat) (hn : 1 ≤ n) (B n₀ m : Nat) (hm : m < 18446744073709551616) (h0n : 0 < n₀) (w : World) (hBw : B < w.heap.size) (_hn₀ : n₀ ≤ w.heap.size) (hc : w.cell? ⟨B, 0, none⟩ = some (.int .u64 m)) (hT : Tab w) :
    SeqStopsK Fence.wide n Tryz.prog 79 #[.pointer (some ⟨B, 0, none⟩)] (fun x : Fin 64 => #[Value.int .i64 (x.val : Nat)]) (Below n₀) (fun ys => ys = mem m) (fun pre => pre <+: mem m) 64 w := fun l J Jx W hW _ _ hY h0 =>
  mem52_in n hn l B n₀ m hm h0n J Jx hY W ((hW.cell (p := ⟨B, 0, none⟩) hBw).trans hc) (hT.below hW (by omega)) h0
theorem stops74 (n : Nat) (hn : 1 ≤ n) (B n₀ m : Nat) (hm : m < 16) (h0n : 0 < n₀) (w : World) (hBw : B < w.heap.size) (_hn₀ : n₀ ≤ w.heap.size) (hc : w.cell? ⟨B, 0, none⟩ = some (.int .u8 m)) (hT : Tab w) :
    SeqStopsK Fence.wide n Tryz.prog 117 #[.pointer (some ⟨B, 0, none⟩)] (fun x : Fin 4 => #[Value.int .i64 (x.val : Nat)]) (Below n₀) (fun ys => ys = mem4 m) (fun pre => pre <+: mem4 m) 4 w := fun l J Jx W hW _ _ hY h0 =>
  mem74_in n hn l B n₀ m hm h0n J Jx hY W ((hW.cell (p := ⟨B, 0, none⟩) hBw).trans hc) (hT.below hW (by omega)) h0
end Go.Proofs.YtgoebckimmofoaaGreatDoor

/- Spreading a set of states over values of a variable. Our own text. -/
namespace Go.Proofs.YtgoebckimmofoaaGreatDoor
open Go.RowKit Go.Shelf Go.Lib
attribute [local go_sem] Oper.semAt_some

set_option maxRecDepth 100000 in
set_option maxHeartbeats 4000000 in
theorem spread_any (m k f : Nat) (hm : m < 18446744073709551616) (hk : k < 3) (hf : f < 16) (w : World) (hT : Tab w) (h0w : 0 < w.heap.size) :
    Calls Tryz.prog 50 #[.int .u64 m, .int .i64 k, .int .u8 f] w fun e w' => e = .returned (.int .u64 (spr m k f : Nat)) ∧ Below w.heap.size w w' := by
  refine (callsIn_wide (n := 6)).1 ?_
  refine callsIn_of_wp_marks Tryz.func50 rfl trivial ?_ rfl
  simp only [Tryz.ntmps50, List.size_toArray, List.length_cons, List.length_nil, Nat.reduceAdd, Nat.reduceSub, Array.replicate_succ, Array.replicate_zero, List.push_toArray, List.append_toArray, List.nil_append, List.cons_append]
  gi_wp2
  refine ⟨trivial, ?_⟩
  refine (callsIn_wide.2 (members35 m _)).mono ?_
  rintro e w' ⟨rfl, rfl⟩
  gi_wp2
  have bN := (((Boxed.new w 3 (.int .i64 k)).alloc (.cells #[.int .u8 f] 107)).alloc (.cells #[.int .u64 0] 57)).alloc (.cells #[.int .u64 m] 57)
  have bF := ((Boxed.new (w.alloc (.cells #[.int .i64 k] 3)) 107 (.int .u8 f)).alloc (.cells #[.int .u64 0] 57)).alloc (.cells #[.int .u64 m] 57)
  have bO := (Boxed.new ((w.alloc (.cells #[.int .i64 k] 3)).alloc (.cells #[.int .u8 f] 107)) 57 (.int .u64 0)).alloc (.cells #[.int .u64 m] 57)
  have bM := Boxed.new (((w.alloc (.cells #[.int .i64 k] 3)).alloc (.cells #[.int .u8 f] 107)).alloc (.cells #[.int .u64 0] 57)) 57 (.int .u64 m)
  simp only [World.size_alloc] at bN bF bO bM
  have hB0 : Below w.heap.size w ((((w.alloc (.cells #[.int .i64 k] 3)).alloc (.cells #[.int .u8 f] 107)).alloc (.cells #[.int .u64 0] 57)).alloc (.cells #[.int .u64 m] 57)) := ((((Below.refl _ w).alloc (Nat.le_refl _) _).alloc (by simp) _).alloc (by simp; omega) _).alloc (by simp; omega) _
  have hsz : ((((w.alloc (.cells #[.int .i64 k] 3)).alloc (.cells #[.int .u8 f] 107)).alloc (.cells #[.int .u64 0] 57)).alloc (.cells #[.int .u64 m] 57)).heap.size = w.heap.size + 4 := by simp
  generalize (((w.alloc (.cells #[.int .i64 k] 3)).alloc (.cells #[.int .u8 f] 107)).alloc (.cells #[.int .u64 0] 57)).alloc (.cells #[.int .u64 m] 57) = W0 at *
  refine wpIn_rangeFunc_ownH (α := Fin 64) rfl (by decide) (gf := 79) (lb := #[.pointer (some ⟨w.heap.size + 1 + 1 + 1, 0, none⟩)]) rfl trivial (enters_of Tryz.func79 (by kernel_rfl) rfl)
    (stops52 5 (by decide) (w.heap.size + 1 + 1 + 1) w.heap.size m hm h0w W0 (by omega) (by omega) bM.cell (hT.below hB0 h0w)) belowK_t (belowK_b (by omega)) (Below.refl _ _) (fun _ => rfl)
    (fun pre W => ((Boxed W (w.heap.size + 1 + 1) 57 (.int .u64 (sprP pre k (mem4 f) : Nat)) ∧ Boxed W w.heap.size 3 (.int .i64 k)) ∧ Boxed W (w.heap.size + 1) 107 (.int .u8 f)) ∧ Below w.heap.size w W)
    (fun _ _ _ => False)
    (OwnFrom.and (OwnFrom.and (OwnFrom.and (Own.from (boxed_own _ _ _) _) (Own.from (boxed_own _ _ _) _)) (Own.from (boxed_own _ _ _) _)) (ownFrom_below (Nat.le_refl _) (by omega)))
    (fun _ _ _ _ _ hs _ _ => hs)
    ⟨⟨⟨bO, bN⟩, bF⟩, hB0⟩
    (fun x a' W => ∃ Bx, w.heap.size + 1 + 1 < Bx ∧ Boxed W Bx 3 (.int .i64 (x.val : Nat)) ∧ a' = { tmps := #[.int .u64 m, .int .i64 k, .int .u8 f, undef, .pointer (some ⟨w.heap.size, 0, none⟩), .pointer (some ⟨w.heap.size + 1, 0, none⟩), .int .u64 0, .pointer (some ⟨w.heap.size + 1 + 1, 0, none⟩), .pointer (some ⟨Bx, 0, none⟩), undef, .int .u64 m, .func (.func 79) #[] #[.pointer (some ⟨w.heap.size + 1 + 1 + 1, 0, none⟩)], .int .i64 (x.val : Nat), undef, undef, undef, undef, undef, undef, undef, undef, undef, undef, undef, undef], defers := [] })
    (fun x a' _ X Y row hs hg hr => by obtain ⟨Bx, h1, h2, h3⟩ := hs; exact ⟨Bx, h1, boxed_own Bx 3 (fun (_ : Unit) => Value.int .i64 (x.val : Nat)) () X Y row h2 hg (fun r e => (hr r e).2), h3⟩)
    ?assign ?body ?done ?stop
  case assign =>
    rintro l pre x W K ⟨⟨⟨bO1, bN1⟩, bF1⟩, hB1⟩ hK
    gi_wp2
    exact hK _ _ ((KeepsOthers.alloc _ _).from _) ((Below.refl _ W).alloc hB1.size _) ⟨⟨⟨bO1.alloc _, bN1.alloc _⟩, bF1.alloc _⟩, hB1.alloc hB1.size _⟩ ⟨W.heap.size, bO1.lt, Boxed.new W 3 _, rfl⟩
  case body =>
    rintro l pre x a' W hl ⟨r, hr⟩ ⟨⟨⟨bO1, bN1⟩, bF1⟩, hB1⟩ ⟨Bx, hBx, bX, rfl⟩ hlt
    have cF := bF1.cell
    gi_wp2
    refine ⟨trivial, ?_⟩
    refine (CallsIn.inRound l (callsIn_wide.2 (members56 f _))).mono ?_
    rintro e w' ⟨rfl, rfl⟩
    gi_wp2
    have hsW := hB1.size
    have bV := Boxed.new W 107 (.int .u8 f)
    have hr' : (W.alloc (.cells #[.int .u8 f] 107)).heap[l]? = some (.loop r) := (Below.heap_alloc W _ l (Array.getElem?_eq_some_iff.1 hr).1).trans hr
    refine wpIn_rangeFunc_ownN (α := Fin 4) (l₀ := l) (r₀ := r) rfl hr' (by decide) (gf := 117) (lb := #[.pointer (some ⟨W.heap.size, 0, none⟩)]) rfl trivial (enters_of Tryz.func117 (by kernel_rfl) rfl)
      ((stops74 3 (by decide) W.heap.size w.heap.size f hf h0w _ (by simp) (by simp; omega) bV.cell ((hT.below hB1 h0w).below ((Below.refl _ W).alloc hsW _) h0w)).inRound l) belowK_t (belowK_b (by simp; omega)) (Below.refl _ _) (fun _ => rfl)
      (fun pre' W' => (((Boxed W' (w.heap.size + 1 + 1) 57 (.int .u64 (spr1 (sprP pre k (mem4 f)) x.val k pre' : Nat)) ∧ Boxed W' Bx 3 (.int .i64 (x.val : Nat))) ∧ Boxed W' w.heap.size 3 (.int .i64 k)) ∧ Boxed W' (w.heap.size + 1) 107 (.int .u8 f)) ∧ (Below w.heap.size W W' ∧ KeepsFrom W0.heap.size W W'))
      (fun _ _ _ => False)
      (OwnFrom.and (OwnFrom.and (OwnFrom.and (OwnFrom.and (Own.from (boxed_own _ _ _) _) (Own.from (boxed_own _ _ _) _)) (Own.from (boxed_own _ _ _) _)) (Own.from (boxed_own _ _ _) _)) (OwnFrom.and (ownFrom_below hsW (by first | (simp; done) | (simp; omega))) (ownFrom_keepsFrom (by first | (simp; done) | (simp; omega)))))
      (fun _ _ _ _ _ hs _ _ => hs)
      ⟨⟨⟨⟨bO1.alloc _, bX.alloc _⟩, bN1.alloc _⟩, bF1.alloc _⟩, (Below.refl _ W).alloc hsW _, (KeepsOthers.alloc _ _).from _⟩
      (fun y a'' _ => a'' = { tmps := #[.int .u64 m, .int .i64 k, .int .u8 f, undef, .pointer (some ⟨w.heap.size, 0, none⟩), .pointer (some ⟨w.heap.size + 1, 0, none⟩), .int .u64 0, .pointer (some ⟨w.heap.size + 1 + 1, 0, none⟩), .pointer (some ⟨Bx, 0, none⟩), .int .i64 (y.val : Nat), .int .u64 m, .func (.func 79) #[] #[.pointer (some ⟨w.heap.size + 1 + 1 + 1, 0, none⟩)], .int .i64 (x.val : Nat), .int .u8 f, .func (.func 117) #[] #[.pointer (some ⟨W.heap.size, 0, none⟩)], .int .i64 (y.val : Nat), undef, undef, undef, undef, undef, undef, undef, undef, undef], defers := [] })
      (fun _ _ _ _ _ _ hs _ _ => hs)
      ?assign2 ?body2 ?done2 ?stop2
    case assign2 =>
      rintro l2 pre' y W' K hi hK
      gi_wp2
      exact hK _ _ (KeepsFrom.refl _ _) (Below.refl _ _) hi rfl
    case body2 =>
      rintro l2 pre' y a'' W' _ _ ⟨⟨⟨⟨bO2, bX2⟩, bN2⟩, bF2⟩, hBW, hKF⟩ rfl _
      have cO := bO2.cell
      have fO := bO2.frozen
      have cX := bX2.cell
      have cN := bN2.cell
      have hlt := spr1_lt x.2 hk pre' (sprP pre k (mem4 f)) (sprP_lt hk _ _)
      have hsn := spr1_snoc (sprP pre k (mem4 f)) x.val k pre' y
      have hz := stW_lt x.2 hk y.2
      rw [p64] at hlt
      have HP : Put (_ ∧ _ ∧ _ ∧ _ ∧ _ ∧ _ ∧ _ ∧ _ ∧ _) := ⟨hsn, bO2, bX2, bN2, bF2, hBW, hKF, hBx, hsz⟩
      have hx := x.2
      have hy := y.2
      have hmix : Tryz.prog.follows .mixedOrders = true := by kernel_rfl
      clear hsn bO2 bX2 bN2 bF2 hBW hKF bN bF bO bM hB0 bO1 bN1 bF1 hB1 bX cF bV hr' hr hT
      have HQ : Put (∀ (a1 : Act) (mq : Nat), ownPostG (W.alloc (Obj.cells #[Value.int IntKind.u8 ↑f] 107)).heap.size (Below w.heap.size)
          (fun pre' W' => (((Boxed W' (w.heap.size + 1 + 1) 57 (.int .u64 (spr1 (sprP pre k (mem4 f)) x.val k pre' : Nat)) ∧ Boxed W' Bx 3 (.int .i64 (x.val : Nat))) ∧ Boxed W' w.heap.size 3 (.int .i64 k)) ∧ Boxed W' (w.heap.size + 1) 107 (.int .u8 f)) ∧ (Below w.heap.size W W' ∧ KeepsFrom W0.heap.size W W'))
          (fun _ _ _ => False) (pre' ++ [y]) W' .normal a1 ((W'.drewN mq).setCell ⟨w.heap.size + 1 + 1, 0, none⟩ (.int .u64 ((spr1 (sprP pre k (mem4 f)) x.val k pre' ||| 2 ^ stW x.val k y.val : Nat) : Int)))) := by
        refine ⟨fun a1 mq => ?_⟩
        obtain ⟨hsn, bO2, bX2, bN2, bF2, hBW, hKF, hBx, hsz⟩ := HP.out
        have hd : Below w.heap.size W' (W'.drewN mq) := ⟨rfl, rfl, rfl, Nat.le_refl _, fun _ _ => rfl⟩
        have kd : KeepsOthers W' (W'.drewN mq) := ⟨Nat.le_refl _, fun _ _ h _ => h⟩
        have bO3 : Boxed (W'.drewN mq) _ _ _ := bO2
        have bX3 : Boxed (W'.drewN mq) _ _ _ := bX2
        have bN3 : Boxed (W'.drewN mq) _ _ _ := bN2
        have bF3 : Boxed (W'.drewN mq) _ _ _ := bF2
        exact ⟨(kd.trans (KeepsOthers.setCell _ _ _)).from _, hd.setCell (p := ⟨w.heap.size + 1 + 1, 0, none⟩) (by show w.heap.size ≤ w.heap.size + 1 + 1; omega) _,
          ⟨⟨⟨⟨by rw [hsn]; exact bO3.set _, bX3.other (by omega) _⟩, bN3.other (by omega) _⟩, bF3.other (by omega) _⟩, hBW.trans (hd.setCell (p := ⟨w.heap.size + 1 + 1, 0, none⟩) (by show w.heap.size ≤ w.heap.size + 1 + 1; omega) _), hKF.trans ((kd.trans (KeepsOthers.setCell _ _ _)).from _)⟩⟩
      have h41 : ∀ w1, CallsIn ((Fence.wide.inRound l).inRound l2) 1 Tryz.prog 62 #[.int .u8 (x.val : Nat), .int .i64 k, .int .i64 (y.val : Nat)] w1 fun e w' => e = .returned (.int .u8 (stW x.val k y.val : Nat)) ∧ ∃ m, w' = w1.drewN m := fun w1 => CallsIn.inRound l2 (CallsIn.inRound l (callsIn_wide.2 (with_any x.val k y.val hx hk hy w1)))
      generalize spr1 (sprP pre k (mem4 f)) x.val k pre' = E at cO hlt HQ
      generalize stW x.val k y.val = z at hz HQ h41
      have h37 : ∀ w1, CallsIn ((Fence.wide.inRound l).inRound l2) 1 Tryz.prog 49 #[.int .u64 (E : Nat), .int .i64 (z : Nat)] w1 fun e w' => e = .returned (.int .u64 (E ||| 2 ^ z : Nat)) ∧ w' = w1 := fun w1 => CallsIn.inRound l2 (CallsIn.inRound l (callsIn_wide.2 (with64_any E z hlt hz w1)))
      generalize ownPostG (W.alloc (Obj.cells #[Value.int IntKind.u8 ↑f] 107)).heap.size (Below w.heap.size)
          (fun pre' W' => (((Boxed W' (w.heap.size + 1 + 1) 57 (.int .u64 (spr1 (sprP pre k (mem4 f)) x.val k pre' : Nat)) ∧ Boxed W' Bx 3 (.int .i64 (x.val : Nat))) ∧ Boxed W' w.heap.size 3 (.int .i64 k)) ∧ Boxed W' (w.heap.size + 1) 107 (.int .u8 f)) ∧ (Below w.heap.size W W' ∧ KeepsFrom W0.heap.size W W'))
          (fun _ _ _ => False) (pre' ++ [y]) W' = QQ at HQ ⊢
      clear HP hl hlt hsW hm hf h0w hsz
      generalize x.val = xv at *
      generalize y.val = yv at *
      generalize W.heap.size = c1 at *
      generalize w.heap.size + 1 + 1 = bo at *
      generalize w.heap.size + 1 = bf at *
      generalize w.heap.size = bn at *
      generalize E ||| 2 ^ z = E2 at *
      have hxw : IntKind.u8.wrap (xv : Int) = (xv : Int) := by simp [IntKind.wrap, IntKind.signed, IntKind.bits]; omega
      have hzw : IntKind.i64.wrap (z : Int) = (z : Int) := by simp [IntKind.wrap, IntKind.signed, IntKind.bits]; omega
      gi_wp2
      gi_region_with (first
        | (refine ⟨trivial, ?_⟩; with_reducible refine (h41 _).mono ?_; rintro e w' ⟨rfl, mq, rfl⟩)
        | (refine ⟨trivial, ?_⟩; with_reducible refine (h37 _).mono ?_; rintro e w' ⟨rfl, rfl⟩))
      all_goals exact HQ.out _ _
    case done2 =>
      rintro ys' W' rfl ⟨⟨⟨⟨bO2, bX2⟩, bN2⟩, bF2⟩, hBW, hKF⟩
      gi_wp2
      exact ⟨hKF, hBW, ⟨⟨by rw [sprP_snoc]; exact bO2, bN2⟩, bF2⟩, hB1.trans hBW⟩
    case stop2 =>
      rintro c pre' W' _ h
      exact h.elim
  case done =>
    rintro D zs W hD rfl ⟨⟨⟨bO1, bN1⟩, bF1⟩, hB1⟩ hK
    have cO := bO1.cell
    gi_wp2
    refine ⟨by simp, .inl ⟨_, _, rfl, run_takeDeferred hK, ?_⟩⟩
    exact ⟨_, results_tmp rfl _ _ _, rfl, hB1.trans (belowK_b (w := w) (Nat.le_refl _) W D _ _ (by omega) hK rfl rfl)⟩
  case stop =>
    rintro D c pre W _ _ h _
    exact h.elim
end Go.Proofs.YtgoebckimmofoaaGreatDoor

/- A machine's first states. Our own text. -/
namespace Go.Proofs.YtgoebckimmofoaaGreatDoor
open Go.RowKit Go.Lib

/-- What a machine's block holds of its variables. -/
def MC (B : Nat) (g f : Nat → Nat) (n : Nat) (w : World) : Prop :=
  (∀ k, k < 3 → w.cell? ⟨B, k * 2, none⟩ = some (.int .i64 (g k)) ∧ w.cell? ⟨B, k * 2 + 1, none⟩ = some (.int .u8 (f k))) ∧ w.cell? ⟨B, 6, none⟩ = some (.int .i64 n)
theorem MC.below {B n N : Nat} {g f : Nat → Nat} {w w' : World} (h : MC B g f n w) (hb : Below N w w') (hB : B < N) : MC B g f n w' :=
  ⟨fun k hk => ⟨(hb.cell (p := ⟨B, k * 2, none⟩) hB).trans (h.1 k hk).1, (hb.cell (p := ⟨B, k * 2 + 1, none⟩) hB).trans (h.1 k hk).2⟩, (hb.cell (p := ⟨B, 6, none⟩) hB).trans h.2⟩

end Go.Proofs.YtgoebckimmofoaaGreatDoor

/- The texts of a set of states. Our own text. -/
namespace Go.Proofs.YtgoebckimmofoaaGreatDoor
open Go.RowKit Go.Shelf Go.Lib
attribute [local go_sem] Oper.semAt_some

end Go.Proofs.YtgoebckimmofoaaGreatDoor

/- A machine's next states, whatever its rules mean. Our own text. -/
namespace Go.Proofs.YtgoebckimmofoaaGreatDoor
open Go.RowKit Go.Lib

/-- A function value that maps a state to a value, in every world from w0 on. -/
def Fn1 (w0 : World) (v : Value) (R : Nat → Value) : Prop :=
  ∃ (fn : Nat) (caps : Array Value), v = .func (.func fn) #[] caps ∧ (∀ args w, (callFunc fn args).run Tryz.prog w = .ok (.enter fn args) w) ∧
    ∀ W, Below w0.heap.size w0 W → ∀ x, x < 64 → Calls Tryz.prog fn (#[.int .u8 (x : Nat)] ++ caps) W fun e W' => e = .returned (R x) ∧ Below W.heap.size W W'
theorem Fn1.below {w0 w1 : World} {v : Value} {R : Nat → Value} (h : Fn1 w0 v R) (hb : Below w0.heap.size w0 w1) : Fn1 w1 v R := by
  obtain ⟨fn, caps, h1, h2, h3⟩ := h
  exact ⟨fn, caps, h1, h2, fun W hW => h3 W (hb.trans (hW.mono hb.size))⟩
/-- Two lists, one by one. -/
def All2 {α β : Type} (R : α → β → Prop) : List α → List β → Prop
  | [], [] => True
  | a :: l, b :: m => R a b ∧ All2 R l m
  | _, _ => False
theorem All2.nil {α β : Type} {R : α → β → Prop} : All2 R [] [] := trivial
theorem All2.cons {α β : Type} {R : α → β → Prop} {a : α} {b : β} {l : List α} {m : List β} (h : R a b) (t : All2 R l m) : All2 R (a :: l) (b :: m) := ⟨h, t⟩
theorem All2.length {α β : Type} {R : α → β → Prop} : ∀ {l : List α} {m : List β}, All2 R l m → l.length = m.length
  | [], [], _ => rfl
  | _ :: _, _ :: _, h => by simp [All2.length (R := R) h.2]
  | [], _ :: _, h => h.elim
  | _ :: _, [], h => h.elim
theorem All2.get {α β : Type} {R : α → β → Prop} : ∀ {l : List α} {m : List β}, All2 R l m → ∀ i (h1 : i < l.length) (h2 : i < m.length), R l[i] m[i]
  | [], [], _, i, h1, _ => absurd h1 (Nat.not_lt_zero i)
  | _ :: _, _ :: _, h, 0, _, _ => h.1
  | _ :: _, _ :: _, h, i + 1, h1, h2 => All2.get (R := R) h.2 i (by simpa using h1) (by simpa using h2)
  | [], _ :: _, h, _, _, _ => h.elim
  | _ :: _, [], h, _, _, _ => h.elim
theorem All2.mono {α β : Type} {R S : α → β → Prop} (hs : ∀ a b, R a b → S a b) : ∀ {l : List α} {m : List β}, All2 R l m → All2 S l m
  | [], [], _ => All2.nil
  | _ :: _, _ :: _, h => All2.cons (hs _ _ h.1) (All2.mono (R := R) hs h.2)
  | [], _ :: _, h => h.elim
  | _ :: _, [], h => h.elim
theorem All2.snoc {α β : Type} {R : α → β → Prop} {a : α} {b : β} (hr : R a b) : ∀ {l : List α} {m : List β}, All2 R l m → All2 R (l ++ [a]) (m ++ [b])
  | [], [], _ => All2.cons hr All2.nil
  | _ :: _, _ :: _, h => All2.cons h.1 (All2.snoc (R := R) hr h.2)
  | [], _ :: _, h => h.elim
  | _ :: _, [], h => h.elim

end Go.Proofs.YtgoebckimmofoaaGreatDoor
