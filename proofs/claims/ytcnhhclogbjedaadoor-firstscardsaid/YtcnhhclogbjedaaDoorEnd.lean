/- The code's reader: the end of a rule. Our own text. -/
import Derived.Test.YtcnhhclogbjedaaDoorCond
import Derived.Deep.RegionLaw
import Derived.Deep.AppendLies
import Derived.Deep.DrawnRows
namespace Go.Proofs.YtcnhhclogbjedaaDoor
open Go.RowKit
attribute [local go_sem ↓] Go.wp_at_zero Go.wp_at_succ

theorem owned_oneCell {w : World} {b e z n : Nat} {v : Value} {xs : List Value} (h : w.ownsRow b e z v n xs) : v.oneCell' = true := by
  rcases h.2 with ⟨rfl, _⟩ | ⟨g, cap, _, rfl, _⟩ <;> rfl

theorem news3 (w : World) (o1 o2 : Obj) (v : Value) (t : TypeId) : ∀ j u, [v][j]? = some u → (((w.alloc o1).alloc o2).alloc (.cells #[v] t)).drew.cell? ((⟨w.heap.size + 2, 0, none⟩ : Addr).add j) = some u := by
  have := cell_one_new ((w.alloc o1).alloc o2) v t
  simpa using this
theorem size3 (w : World) (o1 o2 o3 : Obj) : (((w.alloc o1).alloc o2).alloc o3).drew.heap.size = w.heap.size + 3 := by simp
theorem base3 (w : World) (o1 o2 o3 : Obj) (B : Nat) (h : B < w.heap.size) : B + 1 ≤ (((w.alloc o1).alloc o2).alloc o3).drew.heap.size := by simp; omega

theorem base3' (w : World) (o1 o2 o3 : Obj) (B : Nat) (h : B < w.heap.size) : B ≤ (((w.alloc o1).alloc o2).alloc o3).drew.heap.size := by simp; omega
theorem end_fin {B : Nat} {s : ByteArray} {t : T} {x : Junk} {w w1 : World} {g cap n : Nat} {xs : List Value}
    (hb : RB B s { t with nr := n } { x with vr := .slice (some ⟨g, 0, none⟩) n cap } (w1.setCell ⟨B, 9, none⟩ (.slice (some ⟨g, 0, none⟩) n cap)))
    (ho : w1.ownsRow (B + 1) 106 1 (.slice (some ⟨g, 0, none⟩) n cap) n xs) (hl : Below B w w1) :
    Fin B s { t with nr := n, chd := 0 } w ((((w1.setCell ⟨B, 9, none⟩ (.slice (some ⟨g, 0, none⟩) n cap)).setCell ⟨B, 10, none⟩ (.slice none 0 0)).setCell ⟨B, 11, none⟩ (.slice none 0 0)).setCell ⟨B, 12, none⟩ (.int .u8 0)) := by
  refine ⟨{ x with vr := .slice (some ⟨g, 0, none⟩) n cap, vc := .slice none 0 0, vh := .slice none 0 0 }, ((hb.set10 _).set11 _).set12 0, ⟨⟨xs, ?_⟩, ⟨0, [], Nat.zero_le _, World.ownsRow_nil _ _ _ _⟩, ⟨0, [], Nat.zero_le _, World.ownsRow_nil _ _ _ _⟩⟩, ?_⟩
  · exact ownsRow_setCell_below (ownsRow_setCell_below (ownsRow_setCell_below (ownsRow_setCell_below ho (Nat.lt_succ_self B) _) (Nat.lt_succ_self B) _) (Nat.lt_succ_self B) _) (Nat.lt_succ_self B) _
  · exact (((hl.setCell (Nat.le_refl _) _).setCell (Nat.le_refl _) _).setCell (Nat.le_refl _) _).setCell (Nat.le_refl _) _

section
variable {B : Nat} {s : ByteArray} {t : T} {x : Junk} {w : World}
set_option maxRecDepth 100000 in
set_option maxHeartbeats 1600000 in
theorem end_any (hn : t.nr ≤ 8) (_hat : t.at_ ≤ 120) (hb : RB B s t x w) (hR : Rows3 B t x w) :
    Calls Tryd.prog 47 #[.pointer (some ⟨B, 0, none⟩)] w fun e w' => e = .returned (.tuple #[]) ∧ Fin B s { t with nr := t.nr + 1, chd := 0 } w w' := by
  obtain ⟨⟨xs, hr⟩, ⟨k, ys, hk, hc⟩, ⟨j, zs, hj, hh⟩⟩ := hR
  obtain ⟨i0, hi, hz0, hz1, hz2⟩ := info_parts Tryd.info106
  have hB := hb.lt
  have c9 := hb.c9
  have c10 := hb.c10
  have c11 := hb.c11
  have o10 := owned_oneCell hc
  have o11 := owned_oneCell hh
  have hne := ownBlock_ne hr
  have k2 : ∀ o1 o2, ((w.alloc o1).alloc o2).cell? ⟨B, 9, none⟩ = some x.vr := fun _ _ => ((hb.alloc _).alloc _).c9
  have k3 : ∀ o1 o2 o3, (((w.alloc o1).alloc o2).alloc o3).cell? ⟨B, 9, none⟩ = some x.vr := fun _ _ _ => (((hb.alloc _).alloc _).alloc _).c9
  have k2' : ∀ o1 o2, ((w.alloc o1).alloc o2).drew.cell? ⟨B, 9, none⟩ = some x.vr := fun _ _ => ((hb.alloc _).alloc _).c9
  have k3' : ∀ o1 o2 o3, (((w.alloc o1).alloc o2).alloc o3).drew.cell? ⟨B, 9, none⟩ = some x.vr := fun _ _ _ => (((hb.alloc _).alloc _).alloc _).c9
  have m63 : t.nr + 1 ≤ maxLen := by unfold maxLen; omega
  have m47 : (t.nr + 1) * 8 ≤ 140737488355328 := by omega
  go_enter Tryd.func47, Tryd.ntmps47
  go_wp2_with fail
  go_region_law
    (first
      | (refine step_append_lies _ ?q1 (.tmp 7) (.tmp 17) 43 ?q2 (B + 1) 106 i0 _ 1 8 Tryd.underlying43 hi hz0 hz1 hz2 rfl Nat.one_pos x.vr t.nr xs ?q3 ((((hr.alloc _).alloc _).alloc _).drew) ⟨w.heap.size + 2, 0, none⟩ 1 1 [.func (.func 87) #[] #[.pointer (some ⟨w.heap.size, 0, none⟩), .pointer (some ⟨w.heap.size + 1, 0, none⟩)]] ?q4 rfl (news3 w _ _ _ _) (func_oneCell _ _ _) Nat.one_pos m63 m47 (base3 w _ _ _ B hB) (w.heap.size + 3) (size3 w _ _ _) ?_; (case q1 => rfl); (case q2 => rfl); (case q3 => rfl); (case q4 => rfl); intro g cap w1 hown1 hgrow hat' hlt; have hb1 : RB B s t x w1 := ((((hb.alloc _).alloc _).alloc _).drew).grown hgrow hne; have f9 := hb1.free 9; have d9 := hb1.c9)
      | (go_simp; go_at_call 72; refine (makeRule_any x.vc x.vh o10 o11 _).mono ?_; rintro e w' ⟨rfl, rfl⟩))
  all_goals
    have hb2 := hb1.set9 (.slice (some ⟨g, 0, none⟩) (t.nr + 1) cap) (t.nr + 1)
    have d10 := hb2.c10
    have d11 := hb2.c11
    have d12 := hb2.c12
    have f10 := hb2.free 10
    have f11 := hb2.free 11
    have f12 := hb2.free 12
    have FIN : Hid (Fin B s { t with nr := t.nr + 1, chd := 0 } w ((((w1.setCell ⟨B, 9, none⟩ (.slice (some ⟨g, 0, none⟩) (t.nr + 1) cap)).setCell ⟨B, 10, none⟩ (.slice none 0 0)).setCell ⟨B, 11, none⟩ (.slice none 0 0)).setCell ⟨B, 12, none⟩ (.int .u8 0))) :=
      end_fin hb2 hown1 ((((((Ex.refl B w).alloc _).alloc _).alloc _).drew.below (Nat.le_refl _) (by omega)).grown hgrow (base3' w _ _ _ B hB) (ownBlock_ge hr))
    clear hb1 hb2 hown1 hgrow k2 k3 k2' k3' c9 c10 c11 hr hc hh
    go_wp2
    go_end0
    exact ⟨rfl, FIN.out⟩
end
end Go.Proofs.YtcnhhclogbjedaaDoor
