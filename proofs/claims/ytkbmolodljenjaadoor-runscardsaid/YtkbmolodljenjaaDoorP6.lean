import Derived.Test.YtkbmolodljenjaaDoorP5
/- The document's reader: a variable. Our own text. -/
namespace Go.Proofs.YtkbmolodljenjaaDoor
open Go.RowKit

theorem Tryd.info3 : (Tryd.prog.info? 3).map (fun i => (i.zero, i.size, i.bytes)) = some (some (.int .i64 0), 1, 8) := by kernel_rfl
def qBet (s : ByteArray) (q : Q) (lo d : Nat) : Nat × Q := match qNum s q lo d with
  | some k => (k, q.adv)
  | none => (0, q.fail)
def qFirst (s : ByteArray) : Nat → Nat → Nat → List Nat → List Nat × Q
  | 0, _, j, acc => (acc, .ok j)
  | f + 1, n, j, acc => match num? s j 48 (n + 1) 3 with
    | some v => qFirst s f v (j + 1) (acc ++ [v])
    | none => (acc, .ok j)
def qVar (s : ByteArray) (k : Nat) (q : Q) : Option (Nat × List Nat × Nat) × Q :=
  match qBet s (qMust s (qBet s (qMust s q (97 + k)) 49 2).2 61) 48 3 with
  | (_, .error p) => (none, .error p)
  | (n, .ok j) => (some ((qBet s (qMust s q (97 + k)) 49 2).1 + 1, (qFirst s 4 n j [n]).1, (qMust s (qBet s (qMust s q (97 + k)) 49 2).2 61).pos), (qFirst s 4 n j [n]).2)

section
variable {B : Nat} {s : ByteArray} {q : Q} {w : World}
theorem qBet_le (lo d : Nat) : (qBet s q lo d).1 ≤ d := by
  unfold qBet; split
  · next e => cases q with
    | ok i => exact (num_le e).2
    | error p => cases e
  · omega
theorem between_any {li hi : Int} (lo d : Nat) (e1 : li = (lo : Int)) (e2 : hi = ((lo + d : Nat) : Int)) (hs : s.size ≤ 120) (hc : lo + d ≤ 255) (hb : RS B s q w) :
    Calls Tryd.prog 63 #[.pointer (some ⟨B, 0, none⟩), .int .u8 li, .int .u8 hi] w fun e w' => e = .returned (.int .i64 ((qBet s q lo d).1 : Nat)) ∧ RS B s (qBet s q lo d).2 w' ∧ Ex B w w' := by
  subst e1 e2
  unfold qBet
  cases hn : qNum s q lo d with
  | none => exact between_no lo (lo + d) d rfl hs hc hb hn
  | some k => exact between_yes lo (lo + d) d k rfl hs hc hb hn
theorem RS.at (h : RS B s q w) : ∃ i : Nat, w.cell? ⟨B, 1, none⟩ = some (.int .i64 i) ∧ (∀ j, q = .ok j → i = j) := by
  cases q with
  | ok i => exact ⟨i, h.2.c1, fun j h => by cases h; rfl⟩
  | error p => obtain ⟨i, _, h⟩ := h; exact ⟨i, h.c1, fun j h => by cases h⟩
theorem blk3_0 {w : World} {b : Nat} {x y z v : Value} {t : TypeId} (h : w.heap[b]? = some (.cells #[x, y, z] t (0, 0))) : (w.setCell ⟨b, 0, none⟩ v).heap[b]? = some (.cells #[v, y, z] t (0, 0)) := heap_setCell_same w b 0 _ t v h
theorem blk3_1 {w : World} {b : Nat} {x y z v : Value} {t : TypeId} (h : w.heap[b]? = some (.cells #[x, y, z] t (0, 0))) : (w.setCell ⟨b, 1, none⟩ v).heap[b]? = some (.cells #[x, v, z] t (0, 0)) := heap_setCell_same w b 1 _ t v h
theorem blk3_2 {w : World} {b : Nat} {x y z v : Value} {t : TypeId} (h : w.heap[b]? = some (.cells #[x, y, z] t (0, 0))) : (w.setCell ⟨b, 2, none⟩ v).heap[b]? = some (.cells #[x, y, v] t (0, 0)) := heap_setCell_same w b 2 _ t v h
theorem own_one (w : World) (base : Nat) (h : base ≤ w.heap.size) (v : Value) (e : TypeId) : (w.alloc (.cells #[v] e)).ownsRow base e 1 (.slice (some ⟨w.heap.size, 0, none⟩) 1 1) 1 [v] :=
  ⟨rfl, .inr ⟨w.heap.size, 1, #[v], rfl, h, heap_alloc_new w _, Nat.le_refl _, by unfold maxLen; omega, rfl, rfl⟩⟩
def ints (l : List Nat) : List Value := l.map (fun n : Nat => .int .i64 (n : Int))

set_option maxRecDepth 100000 in
set_option maxHeartbeats 3200000 in
theorem rvar_any (k : Nat) {r : Option (Nat × List Nat × Nat)} {q' : Q} (hk : k < 3) (hs : s.size ≤ 120) (hb : RS B s q w) (hp : qVar s k q = (r, q')) :
    Calls Tryd.prog 40 #[.pointer (some ⟨B, 0, none⟩), .int .i64 k] w fun e w' => (∃ (top at_ : Nat) (vf : Value) (l : List Nat), e = .returned (.agg #[.int .i64 top, vf, .int .i64 at_]) ∧ w'.ownsRow w.heap.size 3 1 vf l.length (ints l) ∧ l.length ≤ 5 ∧ at_ ≤ 120 ∧ ∀ y, r = some y → y = (top, l, at_)) ∧ RS B s q' w' ∧ Ex B w w' := by
  have hBw := hb.lt
  have hv0 := heap_alloc_new w (.cells #[.int .i64 0, .slice none 0 0, .int .i64 0] 97)
  have hC1 := heap_alloc_new (w.alloc (.cells #[.int .i64 0, .slice none 0 0, .int .i64 0] 97)) (.cells #[.int .i64 0, .slice none 0 0, .int .i64 0] 97)
  rw [World.size_alloc] at hC1
  have hM1 := (Below.heap_alloc _ (.cells #[.int .i64 0, .slice none 0 0, .int .i64 0] 97) _ (lt_of_block hv0)).trans hv0
  have hb1 := (hb.alloc (.cells #[.int .i64 0, .slice none 0 0, .int .i64 0] 97)).alloc (.cells #[.int .i64 0, .slice none 0 0, .int .i64 0] 97)
  have hX1 := ((Ex.refl B w).alloc (.cells #[.int .i64 0, .slice none 0 0, .int .i64 0] 97)).alloc (.cells #[.int .i64 0, .slice none 0 0, .int .i64 0] 97)
  clear hv0 hb
  unfold qVar at hp
  generalize hq1 : qMust s q (97 + k) = q1 at *
  have ht1 := qBet_le (s := s) (q := q1) 49 2
  generalize hq2 : qBet s q1 49 2 = b2 at *
  obtain ⟨t1, q2⟩ := b2
  generalize hq3 : qMust s q2 61 = q3 at *
  have hn1 := qBet_le (s := s) (q := q3) 48 3
  generalize hq4 : qBet s q3 48 3 = b4 at *
  obtain ⟨n1, q4⟩ := b4
  simp only at ht1 hn1 hp hq3 hq4
  have HP : Aside (_ = (r, q')) := hp
  clear hp
  obtain ⟨i0, hi, hz0, hz1, hz2⟩ := info_parts Tryd.info3
  go_enter Tryd.func40, Tryd.ntmps40
  go_wp2_with fail
  refine (must_any (97 + k) (by omega) hs (by omega) hb1).mono ?_; rintro e w2 ⟨rfl, hb2, hx2⟩
  rw [hq1] at hb2
  have hX2 := hX1.trans hx2
  have hC2 := (hx2.block _ (lt_of_block hC1) (by omega)).trans hC1
  have hM2 := (hx2.block _ (lt_of_block hM1) (by omega)).trans hM1
  clear hb1 hX1 hC1 hM1 hx2 hq1
  go_wp2_with fail
  refine (between_any 49 2 rfl rfl hs (by omega) hb2).mono ?_; rintro e w3 ⟨rfl, hb3, hx3⟩
  rw [hq2] at hb3 ⊢
  simp only at hb3 ⊢
  have hX3 := hX2.trans hx3
  have hC3 := (hx3.block _ (lt_of_block hC2) (by omega)).trans hC2
  have hM3 := (hx3.block _ (lt_of_block hM2) (by omega)).trans hM2
  obtain ⟨⟨k0, k1, k2⟩, kf⟩ := blk3 hC3
  have lC3 := lt_of_block hC3
  have et : ((t1 + 1 : Nat) : Int) = (t1 : Int) + 1 := by omega
  have HN : Aside (RS B s q2 (w3.setCell ⟨w.heap.size + 1, 0, none⟩ (.int .i64 ((t1 : Int) + 1))) ∧ Ex B w (w3.setCell ⟨w.heap.size + 1, 0, none⟩ (.int .i64 ((t1 : Int) + 1))) ∧ _ ∧ _) := ⟨hb3.set_other (p := ⟨w.heap.size + 1, 0, none⟩) (by show w.heap.size + 1 ≠ B; omega) _, hX3.setCell (p := ⟨w.heap.size + 1, 0, none⟩) (.inr (by show w.heap.size ≤ w.heap.size + 1; omega)) _, blk3_0 (v := .int .i64 ((t1 : Int) + 1)) hC3, (heap_setCell_other w3 ⟨w.heap.size + 1, 0, none⟩ w.heap.size (.int .i64 ((t1 : Int) + 1)) (by show w.heap.size ≠ w.heap.size + 1; omega)).trans hM3⟩
  clear hb2 hX2 hC2 hM2 hx3 hq2 hb3 hX3 hC3 hM3 et
  go_wp2_with fail
  obtain ⟨hb4, hX4, hC4, hM4⟩ := HN.out
  generalize w3.setCell ⟨w.heap.size + 1, 0, none⟩ (.int .i64 ((t1 : Int) + 1)) = w4 at *
  clear HN k0 k1 k2 kf lC3
  refine (must_any 61 (by omega) hs (by omega) hb4).mono ?_; rintro e w5 ⟨rfl, hb5, hx5⟩
  rw [hq3] at hb5
  have hX5 := hX4.trans hx5
  have hC5 := (hx5.block _ (lt_of_block hC4) (by omega)).trans hC4
  have hM5 := (hx5.block _ (lt_of_block hM4) (by omega)).trans hM4
  obtain ⟨at_, c1, hat_⟩ := hb5.at
  have hat120 : at_ ≤ 120 := by
    cases q3 with
    | ok j => have := hb5.1; have := hat_ j rfl; omega
    | error p =>
      obtain ⟨i', hi', h'⟩ := hb5
      have h1 := h'.c1
      rw [h1] at c1
      simp at c1
      omega
  obtain ⟨⟨k0, k1, k2⟩, kf⟩ := blk3 hC5
  have lC5 := lt_of_block hC5
  have HN : Aside (RS B s q3 (w5.setCell ⟨w.heap.size + 1, 2, none⟩ (.int .i64 at_)) ∧ Ex B w (w5.setCell ⟨w.heap.size + 1, 2, none⟩ (.int .i64 at_)) ∧ _ ∧ _) := ⟨hb5.set_other (p := ⟨w.heap.size + 1, 2, none⟩) (by show w.heap.size + 1 ≠ B; omega) _, hX5.setCell (p := ⟨w.heap.size + 1, 2, none⟩) (.inr (by show w.heap.size ≤ w.heap.size + 1; omega)) _, blk3_2 (v := .int .i64 (at_ : Int)) hC5, (heap_setCell_other w5 ⟨w.heap.size + 1, 2, none⟩ w.heap.size (.int .i64 (at_ : Int)) (by show w.heap.size ≠ w.heap.size + 1; omega)).trans hM5⟩
  clear hb4 hX4 hC4 hM4 hx5 hq3 hb5 hX5 hC5 hM5
  go_wp2_with fail
  obtain ⟨hb6, hX6, hC6, hM6⟩ := HN.out
  generalize w5.setCell ⟨w.heap.size + 1, 2, none⟩ (.int .i64 (at_ : Int)) = w6 at *
  clear HN k0 k1 k2 kf lC5 c1
  refine (between_any 48 3 rfl rfl hs (by omega) hb6).mono ?_; rintro e w7 ⟨rfl, hb7, hx7⟩
  rw [hq4] at hb7 ⊢
  simp only at hb7 ⊢
  have hX7 := hX6.trans hx7
  have hC7 := (hx7.block _ (lt_of_block hC6) (by omega)).trans hC6
  have hM7 := (hx7.block _ (lt_of_block hM6) (by omega)).trans hM6
  obtain ⟨⟨k0, k1, k2⟩, kf⟩ := blk3 hC7
  have lC7 := lt_of_block hC7
  have hlx : w.heap.size ≤ w7.heap.size := hX7.size
  have hs7 : w.heap.size + 1 ≠ w7.heap.size := by omega
  have ho7 : ((w7.setCell ⟨w.heap.size + 1, 1, none⟩ (.slice (some ⟨w7.heap.size, 0, none⟩) 1 1)).alloc (.cells #[.int .i64 n1] 3)).ownsRow w.heap.size 3 1 (.slice (some ⟨w7.heap.size, 0, none⟩) 1 1) 1 [.int .i64 n1] := by
    have := own_one (w7.setCell ⟨w.heap.size + 1, 1, none⟩ (.slice (some ⟨w7.heap.size, 0, none⟩) 1 1)) w.heap.size (by simpa using hlx) (.int .i64 n1) 3
    simpa using this
  have HN : Aside (RS B s q4 ((w7.setCell ⟨w.heap.size + 1, 1, none⟩ (.slice (some ⟨w7.heap.size, 0, none⟩) 1 1)).alloc (.cells #[.int .i64 n1] 3)) ∧ Ex B w ((w7.setCell ⟨w.heap.size + 1, 1, none⟩ (.slice (some ⟨w7.heap.size, 0, none⟩) 1 1)).alloc (.cells #[.int .i64 n1] 3)) ∧ _ ∧ _ ∧ _) :=
    ⟨(hb7.set_other (p := ⟨w.heap.size + 1, 1, none⟩) (by show w.heap.size + 1 ≠ B; omega) _).alloc _, (hX7.setCell (p := ⟨w.heap.size + 1, 1, none⟩) (.inr (by show w.heap.size ≤ w.heap.size + 1; omega)) _).alloc _, (Below.heap_alloc (w7.setCell ⟨w.heap.size + 1, 1, none⟩ (.slice (some ⟨w7.heap.size, 0, none⟩) 1 1)) (.cells #[.int .i64 n1] 3) _ (by simpa using lC7)).trans (blk3_1 (v := .slice (some ⟨w7.heap.size, 0, none⟩) 1 1) hC7), (Below.heap_alloc (w7.setCell ⟨w.heap.size + 1, 1, none⟩ (.slice (some ⟨w7.heap.size, 0, none⟩) 1 1)) (.cells #[.int .i64 n1] 3) _ (by simp; omega)).trans ((heap_setCell_other w7 ⟨w.heap.size + 1, 1, none⟩ w.heap.size (.slice (some ⟨w7.heap.size, 0, none⟩) 1 1) (by show w.heap.size ≠ w.heap.size + 1; omega)).trans hM7), ho7⟩
  clear ho7
  have hq4' := hq4
  clear hb6 hX6 hC6 hM6 hx7 hq4 hb7 hX7 hC7 hM7
  have HQ4 : Aside (qBet s q3 48 3 = (n1, q4)) := hq4'
  clear hq4'
  go_wp2_with fail
  obtain ⟨hb8, hX8, hC8, hM8, ho8⟩ := HN.out
  have hq4' := HQ4.out
  clear HQ4
  generalize (w7.setCell ⟨w.heap.size + 1, 1, none⟩ (.slice (some ⟨w7.heap.size, 0, none⟩) 1 1)).alloc (.cells #[.int .i64 n1] 3) = w8 at *
  clear HN k0 k1 k2 kf lC7 hlx hs7
  obtain ⟨F, hF⟩ : ∃ F, ∀ j, q4 = .ok j → qFirst s 4 n1 j [n1] = F := by
    cases q4 with
    | ok j => exact ⟨_, fun j' h => by cases h; rfl⟩
    | error p => exact ⟨([], .error p), fun j' h => by cases h⟩
  have hP2 : (∃ p, q4 = .error p ∧ r = none ∧ q' = .error p) ∨ ((∃ j, q4 = .ok j) ∧ r = some (t1 + 1, F.1, at_) ∧ q' = F.2) := by
    have hp := HP.out
    cases q4 with
    | error p => simp only [Prod.mk.injEq] at hp; exact .inl ⟨p, rfl, hp.1.symm, hp.2.symm⟩
    | ok j =>
      simp only [Prod.mk.injEq, hF j rfl] at hp
      refine .inr ⟨⟨j, rfl⟩, ?_, hp.2.symm⟩
      rw [← hp.1]
      have : q3.pos = at_ := by
        cases q3 with
        | ok i' => exact (hat_ i' rfl).symm
        | error p => exact absurd hq4' (by simp [qBet, qNum, Q.fail])
      rw [this]
  have HF0 : Aside (∀ j, q4 = .ok j → qFirst s 4 n1 j [n1] = F) := hF
  have HP2 : Aside _ := hP2
  clear hF hP2 HP hat_ hq4'
  go_loopg [6] 4 (fun gk nv wr => ∃ (n : Nat) (q5 : Q) (l : List Nat) (vf : Value), nv = .int .i64 n ∧ RS B s q5 wr ∧ Ex B w wr ∧ wr.heap[w.heap.size + 1]? = some (.cells #[.int .i64 ((t1 : Int) + 1), vf, .int .i64 at_] 97 (0, 0)) ∧ wr.heap[w.heap.size]? = some (.cells #[.int .i64 0, .slice none 0 0, .int .i64 0] 97 (0, 0)) ∧ wr.ownsRow w.heap.size 3 1 vf l.length (ints l) ∧ n ≤ 3 ∧ 4 ≤ n + gk ∧ l.length + gk ≤ 5 ∧ ((∃ p, q4 = .error p ∧ q5 = .error p) ∨ (∃ j i', q4 = .ok j ∧ q5 = .ok i' ∧ qFirst s gk n i' l = F)))
  case atStart => exact ⟨n1, q4, [n1], _, rfl, hb8, hX8, hC8, hM8, ho8, hn1, by omega, by simp, by
      cases q4 with
      | ok j => exact .inr ⟨j, j, rfl, rfl, HF0.out j rfl⟩
      | error p => exact .inl ⟨p, rfl, rfl⟩⟩
  case round =>
    clear hb8 hX8 hC8 hM8 ho8 hn1 HF0
    obtain ⟨n, q5, l, vf, rfl, hbr, hXr, hCr, hMr, hor, hn, hfu, hlen, hL⟩ := hrel
    by_cases hgo : ∃ j v, q5 = .ok j ∧ num? s j 48 (n + 1) 3 = some v
    · obtain ⟨j, v, rfl, hnum⟩ := hgo
      obtain ⟨hlt, hlo, hhi, hv⟩ := num_some hnum
      rcases hL with ⟨p, _, h⟩ | ⟨j0, i', hq, h, hR⟩
      case inl => cases h
      cases h
      obtain ⟨g', rfl⟩ : ∃ g', gk = g' + 1 := ⟨gk - 1, by omega⟩
      unfold qFirst at hR
      simp only [hnum] at hR
      have c0 := hbr.2.c0
      have c1 := hbr.2.c1
      have c2 := hbr.2.c2
      have f1 := hbr.2.free 1
      have i0' : (0 : Int) ≤ (j : Int) := by omega
      have i1' : (j : Int) < (s.size : Int) := by omega
      have h1 : (48 : Int) + (n : Int) < (s[j].toNat : Int) := by omega
      have h2 : (s[j].toNat : Int) ≤ 51 := by omega
      have h3 : (48 : Int) ≤ (s[j].toNat : Int) := by omega
      have h4 : s[j].toNat < 256 := s[j].toNat_lt
      have HV : Aside ((v : Int) = (s[j].toNat : Int) - 48) := by show (v : Int) = _; omega
      obtain ⟨⟨k0, k1, k2⟩, kf⟩ := blk3 hCr
      have lC := lt_of_block hCr
      have hlx : w.heap.size ≤ wr.heap.size := hXr.size
      have HK : Aside (RS B s (.ok j) wr ∧ Ex B w wr ∧ _ ∧ _ ∧ _) := ⟨hbr, hXr, hCr, hMr, hor⟩
      have HR : Aside (_ = F) := hR
      have HNUM : Aside (num? s j 48 (n + 1) 3 = some v) := hnum
      have nB1 : ¬ (w.heap.size + 1 = B) := by omega
      have nB2 : ¬ (B = w.heap.size + 1) := by omega
      clear hbr hXr hCr hMr hor hR hnum hv hlo hhi
      go_wp2
      go_quiet (fail)
      go_wp2_with fail
      go_quiet (fail)
      have hoN : ∀ n, (wr.drewN n).ownsRow w.heap.size 3 1 vf l.length (ints l) := fun _ => HK.out.2.2.2.2
      go_wp2_with (at_builtin; refine wpList_append_own _ rfl _ _ 68 rfl w.heap.size 3 i0 _ 1 8 Tryd.underlying68 hi hz0 hz1 hz2 rfl Nat.one_pos vf l.length (ints l) rfl ((hoN _).alloc _) ⟨wr.heap.size, 0, none⟩ 1 1 [.int .i64 ((s[j].toNat : Int) - 48)] rfl rfl (cell_one_new _ _ _) ?c2 ?c3 ?c4 ?c5 ?_)
      case c2 => intro u hu; simp at hu; subst hu; rfl
      case c3 => unfold maxLen; omega
      case c4 => omega
      case c5 => simp; omega
      intro v' w5 hown' hgrow _
      obtain ⟨g5, cap5, hv5⟩ := owned_form hown' (by omega)
      subst hv5
      obtain ⟨hb3, hX3, hC3, hM3, ho3⟩ := HK.out
      have hb5 : RS B s (.ok j) w5 := ((hb3.drewN _).alloc _).grown hgrow (fun h => by have := (ho3.lt B h).1; omega)
      have hX5 : Ex B w w5 := ((hX3.drewN _).alloc _).grown hgrow (fun k' hk' => (ho3.lt k' hk').1)
      have hC5 : w5.heap[w.heap.size + 1]? = some (.cells #[.int .i64 ((t1 : Int) + 1), vf, .int .i64 at_] 97 (0, 0)) := by
        rw [hgrow.block _ (by simp; omega) (fun h => ne_block_of_type ho3 hC3 (by omega) h.symm), Below.heap_alloc _ _ _ (by simp; omega)]; exact hC3
      have hM5 : w5.heap[w.heap.size]? = some (.cells #[.int .i64 0, .slice none 0 0, .int .i64 0] 97 (0, 0)) := by
        rw [hgrow.block _ (by simp; omega) (fun h => ne_block_of_type ho3 hM3 (by omega) h.symm), Below.heap_alloc _ _ _ (by simp; omega)]; exact hM3
      have hne5 : Value.ownBlock (.slice (some ⟨g5, 0, none⟩) (l.length + 1) cap5) ≠ some (w.heap.size + 1) := ne_block_of_type hown' hC5 (by omega)
      have ho5 : w5.ownsRow w.heap.size 3 1 (.slice (some ⟨g5, 0, none⟩) (l.length + 1) cap5) (l ++ [v]).length (ints (l ++ [v])) := by
        have e : ints (l ++ [v]) = ints l ++ [.int .i64 ((s[j].toNat : Int) - 48)] := by simp [ints, HV.out]
        rw [e]; simpa using hown'
      have d1 := hb5.2.c1
      have f1' := hb5.2.free 1
      obtain ⟨⟨p0, p1, p2⟩, pf⟩ := blk3 hC5
      have lC5 := lt_of_block hC5
      have HN : Aside (RS B s (.ok (j + 1)) ((w5.setCell ⟨w.heap.size + 1, 1, none⟩ (.slice (some ⟨g5, 0, none⟩) (l.length + 1) cap5)).setCell ⟨B, 1, none⟩ (.int .i64 ((j + 1 : Nat) : Int))) ∧ Ex B w _ ∧ _ ∧ _ ∧ _) :=
        ⟨⟨hlt, RC.set1 (i := j) (b := -1) ((hb5.set_other (p := ⟨w.heap.size + 1, 1, none⟩) (by show w.heap.size + 1 ≠ B; omega) (.slice (some ⟨g5, 0, none⟩) (l.length + 1) cap5)).2) (j + 1)⟩,
         (hX5.setCell (p := ⟨w.heap.size + 1, 1, none⟩) (.inr (by show w.heap.size ≤ w.heap.size + 1; omega)) (.slice (some ⟨g5, 0, none⟩) (l.length + 1) cap5)).setCell (p := ⟨B, 1, none⟩) (.inl rfl) (.int .i64 ((j + 1 : Nat) : Int)),
         (heap_setCell_other (w5.setCell ⟨w.heap.size + 1, 1, none⟩ (.slice (some ⟨g5, 0, none⟩) (l.length + 1) cap5)) ⟨B, 1, none⟩ (w.heap.size + 1) (.int .i64 ((j + 1 : Nat) : Int)) (by show w.heap.size + 1 ≠ B; omega)).trans (blk3_1 (v := (.slice (some ⟨g5, 0, none⟩) (l.length + 1) cap5)) hC5),
         (heap_setCell_other (w5.setCell ⟨w.heap.size + 1, 1, none⟩ (.slice (some ⟨g5, 0, none⟩) (l.length + 1) cap5)) ⟨B, 1, none⟩ w.heap.size (.int .i64 ((j + 1 : Nat) : Int)) (by show w.heap.size ≠ B; omega)).trans ((heap_setCell_other w5 ⟨w.heap.size + 1, 1, none⟩ w.heap.size (.slice (some ⟨g5, 0, none⟩) (l.length + 1) cap5) (by show w.heap.size ≠ w.heap.size + 1; omega)).trans hM5),
         ownsRow_setCell_below (ownsRow_setCell_other ho5 (a := ⟨w.heap.size + 1, 1, none⟩) (by simpa using hne5) (.slice (some ⟨g5, 0, none⟩) (l.length + 1) cap5)) (a := ⟨B, 1, none⟩) hBw (.int .i64 ((j + 1 : Nat) : Int))⟩
      clear HK hb3 hX3 hC3 hM3 ho3 hb5 hX5 hC5 hM5 hne5 ho5 hown' hgrow k0 k1 k2 kf c0 c1 c2 f1 hoN
      go_wp2
      have hle3 := num_le HNUM.out
      go_roundg g'
      case measure => exact Nat.lt_succ_self _
      case rel =>
        obtain ⟨f1, f2, f3, f4, f5⟩ := HN.out
        refine ⟨v, .ok (j + 1), l ++ [v], (.slice (some ⟨g5, 0, none⟩) (l.length + 1) cap5), by rw [HV.out], f1, f2, f3, f4, f5, hle3.2, by omega, by simp; omega, .inr ⟨j0, j + 1, hq, rfl, HR.out⟩⟩
    · obtain ⟨ao, cap, rfl⟩ := owned_slice' hor
      have HFIN : Aside (q' = q5 ∧ ∀ y, r = some y → y = (t1 + 1, l, at_)) := by
        rcases hL with ⟨p, rfl, rfl⟩ | ⟨j, i', rfl, rfl, hR⟩
        · rcases HP2.out with ⟨p', h, rfl, rfl⟩ | ⟨⟨j, h⟩, _⟩
          · cases h; exact ⟨rfl, fun _ h => (by cases h)⟩
          · cases h
        · rcases HP2.out with ⟨p', h, _⟩ | ⟨_, rfl, rfl⟩
          · cases h
          · have hF : F = (l, .ok i') := by
              rw [← hR]
              have hnone : num? s i' 48 (n + 1) 3 = none := by
                cases hh : num? s i' 48 (n + 1) 3 with
                | none => rfl
                | some v => exact absurd ⟨i', v, rfl, hh⟩ hgo
              cases gk with
              | zero => rfl
              | succ g' => unfold qFirst; rw [hnone]
            rw [hF]
            exact ⟨rfl, fun y h => by cases h; rfl⟩
      obtain ⟨⟨k0, k1, k2⟩, kf⟩ := blk3 hCr
      obtain ⟨⟨m0, m1, m2⟩, mf⟩ := blk3 hMr
      have lC := lt_of_block hCr
      have nb : Value.ownBlock (.slice ao l.length cap) ≠ some w.heap.size := ne_block_of_type hor hMr (by omega)
      have HN : Aside (RS B s q5 (((wr.setCell ⟨w.heap.size, 0, none⟩ (.int .i64 ((t1 : Int) + 1))).setCell ⟨w.heap.size, 1, none⟩ (.slice ao l.length cap)).setCell ⟨w.heap.size, 2, none⟩ (.int .i64 at_)) ∧ Ex B w _ ∧ _) :=
        ⟨hbr.set3 (b := w.heap.size) (i := 0) (j := 1) (k := 2) (by omega) _ _ _, hXr.set3 (b := w.heap.size) (i := 0) (j := 1) (k := 2) (Nat.le_refl _) (.int .i64 ((t1 : Int) + 1)) (.slice ao l.length cap) (.int .i64 at_),
         ownsRow_setCell_other (ownsRow_setCell_other (ownsRow_setCell_other hor (a := ⟨w.heap.size, 0, none⟩) nb (.int .i64 ((t1 : Int) + 1))) (a := ⟨w.heap.size, 1, none⟩) nb (.slice ao l.length cap)) (a := ⟨w.heap.size, 2, none⟩) nb (.int .i64 at_)⟩
      have hlen5 : l.length ≤ 5 := by omega
      have et : ((t1 + 1 : Nat) : Int) = (t1 : Int) + 1 := by omega
      have ET : Aside (((t1 + 1 : Nat) : Int) = (t1 : Int) + 1) := et
      have HBR : Aside (RS B s q5 wr) := hbr
      clear hXr hCr hMr hor nb hL HP2 et hlen hfu
      cases q5 with
      | error p =>
        obtain ⟨i', hile, hcc⟩ := hbr
        have c2 := hcc.c2
        have hd : decide ((p : Int) < 0) = false := by simp
        clear hcc hgo
        go_wp2
        go_quiet (fail)
        go_wp2
        obtain ⟨f1, f2, f3⟩ := HN.out
        obtain ⟨hq', hrel'⟩ := HFIN.out
        refine bodyPost_ret (v := .agg #[.int .i64 ((t1 : Int) + 1), .slice ao l.length cap, .int .i64 at_]) (by simp [results, Tryd.results40, go_sem, m0, m1, m2]) rfl ⟨⟨t1 + 1, at_, _, l, by rw [ET.out], ?_, hlen5, hat120, hrel'⟩, ?_, ?_⟩
        · exact f3
        · rw [hq']; exact f1.block rfl
        · first | exact f2.drewN _ | exact Ex.via f2 (Ex.refl B _) rfl rfl rfl rfl
      | ok j =>
        obtain ⟨hile, hcc⟩ := hbr
        have c0 := hcc.c0
        have c1 := hcc.c1
        have c2 := hcc.c2
        clear hcc
        by_cases hlt : j < s.size
        · have i0' : (0 : Int) ≤ (j : Int) := by omega
          have i1' : (j : Int) < (s.size : Int) := by omega
          have h256 : s[j].toNat < 256 := s[j].toNat_lt
          have hout : ¬ (48 + (n + 1) ≤ s[j].toNat ∧ s[j].toNat ≤ 48 + 3) := by
            intro h
            exact hgo ⟨j, _, rfl, by unfold num?; rw [dif_pos hlt, if_pos h]⟩
          by_cases h1 : (48 : Int) + (n : Int) < (s[j].toNat : Int)
          · have h2 : ¬ ((s[j].toNat : Int) ≤ 51) := by omega
            clear hgo hout
            go_wp2
            go_quiet (fail)
            go_wp2
            obtain ⟨f1, f2, f3⟩ := HN.out
            obtain ⟨hq', hrel'⟩ := HFIN.out
            refine bodyPost_ret (v := .agg #[.int .i64 ((t1 : Int) + 1), .slice ao l.length cap, .int .i64 at_]) (by simp [results, Tryd.results40, go_sem, m0, m1, m2]) rfl ⟨⟨t1 + 1, at_, _, l, by rw [ET.out], ?_, hlen5, hat120, hrel'⟩, ?_, ?_⟩
            · exact f3
            · rw [hq']; exact f1.block rfl
            · first | exact f2.drewN _ | exact Ex.via f2 (Ex.refl B _) rfl rfl rfl rfl
          · have h1' : decide ((48 : Int) + (n : Int) < (s[j].toNat : Int)) = false := by simp; omega
            clear hgo hout
            go_wp2
            go_quiet (fail)
            go_wp2
            obtain ⟨f1, f2, f3⟩ := HN.out
            obtain ⟨hq', hrel'⟩ := HFIN.out
            refine bodyPost_ret (v := .agg #[.int .i64 ((t1 : Int) + 1), .slice ao l.length cap, .int .i64 at_]) (by simp [results, Tryd.results40, go_sem, m0, m1, m2]) rfl ⟨⟨t1 + 1, at_, _, l, by rw [ET.out], ?_, hlen5, hat120, hrel'⟩, ?_, ?_⟩
            · exact f3
            · rw [hq']; exact f1.block rfl
            · first | exact f2.drewN _ | exact Ex.via f2 (Ex.refl B _) rfl rfl rfl rfl
        · have hd : decide (j < s.size) = false := by simp; omega
          clear hgo
          go_wp2
          go_quiet (fail)
          go_wp2
          obtain ⟨f1, f2, f3⟩ := HN.out
          obtain ⟨hq', hrel'⟩ := HFIN.out
          refine bodyPost_ret (v := .agg #[.int .i64 ((t1 : Int) + 1), .slice ao l.length cap, .int .i64 at_]) (by simp [results, Tryd.results40, go_sem, m0, m1, m2]) rfl ⟨⟨t1 + 1, at_, _, l, by rw [ET.out], ?_, hlen5, hat120, hrel'⟩, ?_, ?_⟩
          · exact f3
          · rw [hq']; exact f1.block rfl
          · first | exact f2.drewN _ | exact Ex.via f2 (Ex.refl B _) rfl rfl rfl rfl
end
end Go.Proofs.YtkbmolodljenjaaDoor

namespace Go.Proofs.YtkbmolodljenjaaDoor
open Go.RowKit

theorem Tryd.info82 : (Tryd.prog.info? 97).map (fun i => (i.zero, i.size, i.bytes)) = some (some (.agg #[.int .i64 0, .slice none 0 0, .int .i64 0]), 3, 40) := by kernel_rfl
theorem Tryd.info89 : (Tryd.prog.info? 104).map (fun i => (i.zero, i.size, i.bytes)) = some (some (.agg #[.slice none 0 0, .slice none 0 0]), 2, 48) := by kernel_rfl

structure V3 where
  top : Nat
  at_ : Nat
  l : List Nat
  ao : Option Addr
  cap : Nat
def V3.vf (v : V3) : Value := .slice v.ao v.l.length v.cap
def V3.cells (v : V3) : List Value := [.int .i64 v.top, v.vf, .int .i64 v.at_]
abbrev VA := Nat × List Nat × Nat
def V3.ast (v : V3) : VA := (v.top, v.l, v.at_)
def V3.Ok (w : World) (base : Nat) (v : V3) : Prop := w.ownsRow base 3 1 v.vf v.l.length (ints v.l) ∧ v.l.length ≤ 5 ∧ v.at_ ≤ 120
structure R2 where
  cl : List C7
  dl : List D7
  ao : Option Addr
  cap : Nat
  ao' : Option Addr
  cap' : Nat
def R2.vi (r : R2) : Value := .slice r.ao r.cl.length r.cap
def R2.vd (r : R2) : Value := .slice r.ao' r.dl.length r.cap'
def R2.cells (r : R2) : List Value := [r.vi, r.vd]
abbrev RA := List (Tm × Tm) × List Chg
def R2.ast (r : R2) : RA := (r.cl.map C7.ast, r.dl.map D7.ast)
def R2.Ok (w : World) (base : Nat) (r : R2) : Prop := w.ownsRow base 110 7 r.vi r.cl.length (r.cl.flatMap C7.cells) ∧ w.ownsRow base 128 7 r.vd r.dl.length (r.dl.flatMap D7.cells)
theorem V3.one (v : V3) : ∀ u ∈ v.cells, u.oneCell' = true := by
  intro u hu; simp [V3.cells, V3.vf] at hu; rcases hu with rfl | rfl | rfl <;> rfl
theorem R2.one (v : R2) : ∀ u ∈ v.cells, u.oneCell' = true := by
  intro u hu; simp [R2.cells, R2.vi, R2.vd] at hu; rcases hu with rfl | rfl <;> rfl

def qVars (s : ByteArray) : Nat → Q → List VA → Option (List VA) × Q
  | 0, q, acc => (some acc, q)
  | f + 1, q, acc => match qVar s acc.length q with
    | (none, q1) => (none, q1)
    | (some v, q1) => if acc.length + 1 < 3 then (match qNum s q1 44 0 with
        | some _ => qVars s f q1.adv (acc ++ [v])
        | none => (some (acc ++ [v]), q1)) else (some (acc ++ [v]), q1)
def qRules (s : ByteArray) : Nat → Nat → List RA → Option (List RA) × Q
  | 0, i, _ => (none, .error i)
  | f + 1, i, acc => if i < s.size then (if acc.length = 8 then (none, .error i) else match num? s i 59 0 0 with
      | none => (none, .error i)
      | some _ => match qRule s (.ok (i + 1)) with
        | (none, q1) => (none, q1)
        | (some r, q1) => qRules s f q1.pos (acc ++ [r])) else (some acc, .ok i)
def qRead (s : ByteArray) : Option (List VA × List RA) × Q := match qVars s 3 (.ok 0) [] with
  | (none, q) => (none, q)
  | (some vs, q) => match qRules s 121 q.pos [] with
    | (none, q) => (none, q)
    | (some rs, q) => (some (vs, rs), q)

theorem qFirst_ok (s : ByteArray) : ∀ (f n j : Nat) (acc : List Nat), ∃ j', (qFirst s f n j acc).2 = .ok j' ∧ j ≤ j' ∧ (j ≤ s.size → j' ≤ s.size)
  | 0, _, j, _ => ⟨j, rfl, Nat.le_refl _, id⟩
  | f + 1, n, j, acc => by
    unfold qFirst
    cases h : num? s j 48 (n + 1) 3 with
    | none => exact ⟨j, rfl, Nat.le_refl _, id⟩
    | some v =>
      obtain ⟨j', h1, h2, h3⟩ := qFirst_ok s f v (j + 1) (acc ++ [v])
      have := num_lt h
      exact ⟨j', h1, by omega, fun _ => h3 (by omega)⟩
theorem qMust_ok {s : ByteArray} {q : Q} {c i : Nat} (h : qMust s q c = .ok i) : ∃ j, q = .ok j ∧ i = j + 1 ∧ j < s.size ∧ (∃ k, num? s j c 0 0 = some k) := by
  unfold qMust at h
  cases hn : qNum s q c 0 with
  | none => rw [hn] at h; cases q <;> cases h
  | some k =>
    rw [hn] at h
    cases q with
    | error p => cases hn
    | ok j => cases h; exact ⟨j, rfl, rfl, num_lt hn, k, hn⟩
theorem qBet_ok {s : ByteArray} {q : Q} {lo d i n : Nat} (h : qBet s q lo d = (n, .ok i)) : ∃ j, q = .ok j ∧ i = j + 1 ∧ j < s.size ∧ num? s j lo 0 d = some n := by
  unfold qBet at h
  cases hn : qNum s q lo d with
  | none => rw [hn] at h; cases q <;> cases h
  | some k =>
    rw [hn] at h
    cases q with
    | error p => cases hn
    | ok j => cases h; exact ⟨j, rfl, rfl, num_lt hn, hn⟩
theorem qVar_some {s : ByteArray} {k : Nat} {q q1 : Q} {v : VA} (h : qVar s k q = (some v, q1)) : ∃ j, q1 = .ok j ∧ j ≤ s.size := by
  unfold qVar at h
  split at h
  · cases h
  · next n j e =>
    obtain ⟨_, _, rfl, h1, _⟩ := qBet_ok e
    obtain ⟨j', h2, _, h4⟩ := qFirst_ok s 4 n _ [n]
    simp only [Prod.mk.injEq] at h
    exact ⟨j', h.2.symm.trans h2, h4 h1⟩
theorem qVar_none {s : ByteArray} {k : Nat} {q q1 : Q} (h : qVar s k q = (none, q1)) : ∃ p, q1 = .error p := by
  unfold qVar at h
  split at h
  · cases h; exact ⟨_, rfl⟩
  · cases h
theorem qLoop1_ok {s : ByteArray} : ∀ (f : Nat) (b : Bool) (i : Nat) (acc : List (Tm × Tm)) {r : Option (List (Tm × Tm))} {q : Q}, i ≤ s.size → s.size + 1 ≤ i + f → qLoop1 s f b (.ok i) acc = (r, q) → (r = none ∧ ∃ p, q = .error p) ∨ (∃ l j, r = some l ∧ q = .ok j ∧ i ≤ j ∧ j ≤ s.size)
  | f, false, i, acc, r, q, hi, hf, h => by
    have h' : (some acc, Except.ok i) = (r, q) := by rw [← h]; cases f <;> rfl
    cases h'; exact .inr ⟨acc, i, rfl, rfl, Nat.le_refl _, hi⟩
  | 0, true, i, acc, r, q, hi, hf, h => by omega
  | f + 1, true, i, acc, r, q, hi, hf, h => by
    unfold qLoop1 at h
    cases hc : qCond s (.ok i) with
    | mk rc qc =>
    rw [hc] at h
    cases rc with
    | none => obtain ⟨p, rfl⟩ := qCond_none hc; cases h; exact .inl ⟨rfl, p, rfl⟩
    | some c =>
      obtain ⟨rfl, hle⟩ := qCond_ok hc
      simp only at h
      cases hn : qNum s (.ok (i + 3)) 38 0 with
      | none =>
        simp only [hn] at h
        rcases qLoop1_ok f false (i + 3) _ hle (by omega) h with h1 | ⟨l, j, h1, h2, h3, h4⟩
        · exact .inl h1
        · exact .inr ⟨l, j, h1, h2, by omega, h4⟩
      | some k =>
        simp only [hn] at h
        have := num_lt hn
        rcases qLoop1_ok f true (i + 3 + 1) _ (by omega) (by omega) h with h1 | ⟨l, j, h1, h2, h3, h4⟩
        · exact .inl h1
        · exact .inr ⟨l, j, h1, h2, by omega, h4⟩
theorem qLoop2_ok {s : ByteArray} : ∀ (f : Nat) (b : Bool) (i : Nat) (acc : List Chg) {r : Option (List Chg)} {q : Q}, i ≤ s.size → s.size + 1 ≤ i + f → qLoop2 s f b (.ok i) acc = (r, q) → (r = none ∧ ∃ p, q = .error p) ∨ (∃ l j, r = some l ∧ q = .ok j ∧ i ≤ j ∧ j ≤ s.size)
  | f, false, i, acc, r, q, hi, hf, h => by
    have h' : (some acc, Except.ok i) = (r, q) := by rw [← h]; cases f <;> rfl
    cases h'; exact .inr ⟨acc, i, rfl, rfl, Nat.le_refl _, hi⟩
  | 0, true, i, acc, r, q, hi, hf, h => by omega
  | f + 1, true, i, acc, r, q, hi, hf, h => by
    unfold qLoop2 at h
    cases hc : qChange s (.ok i) with
    | mk rc qc =>
    rw [hc] at h
    cases rc with
    | none => obtain ⟨p, rfl⟩ := qChange_none hc; cases h; exact .inl ⟨rfl, p, rfl⟩
    | some c =>
      obtain ⟨j0, rfl, hlt, hle⟩ := qChange_ok hc
      simp only at h
      cases hn : qNum s (.ok j0) 44 0 with
      | none =>
        simp only [hn] at h
        rcases qLoop2_ok f false j0 _ hle (by omega) h with h1 | ⟨l, j, h1, h2, h3, h4⟩
        · exact .inl h1
        · exact .inr ⟨l, j, h1, h2, by omega, h4⟩
      | some k =>
        simp only [hn] at h
        have := num_lt hn
        rcases qLoop2_ok f true (j0 + 1) _ (by omega) (by omega) h with h1 | ⟨l, j, h1, h2, h3, h4⟩
        · exact .inl h1
        · exact .inr ⟨l, j, h1, h2, by omega, h4⟩
theorem qRule_ok {s : ByteArray} {i : Nat} {r : Option RA} {q : Q} (hs : s.size ≤ 120) (hi : i ≤ s.size) (h : qRule s (.ok i) = (r, q)) : (r = none ∧ ∃ p, q = .error p) ∨ (∃ l j, r = some l ∧ q = .ok j ∧ i ≤ j ∧ j ≤ s.size) := by
  unfold qRule at h
  cases h1 : qLoop1 s 121 (qNum s (.ok i) 58 0).isNone (.ok i) [] with
  | mk r1 q1 =>
  rw [h1] at h
  rcases qLoop1_ok 121 _ i [] hi (by omega) h1 with ⟨rfl, p, rfl⟩ | ⟨l, j, rfl, rfl, h3, h4⟩
  · cases h; exact .inl ⟨rfl, p, rfl⟩
  · simp only at h
    cases hn : qNum s (.ok j) 58 0 with
    | none => simp only [hn] at h; cases h; exact .inl ⟨rfl, _, rfl⟩
    | some k =>
      have hl := num_lt hn
      simp only [hn] at h
      cases h2 : qLoop2 s 121 true (.ok (j + 1)) [] with
      | mk r2 q2 =>
      replace h : (match qLoop2 s 121 true (.ok (j + 1)) [] with | (none, q2) => (none, q2) | (some ds, q2) => (some (l, ds), q2)) = (r, q) := h
      rw [h2] at h
      rcases qLoop2_ok 121 true (j + 1) [] (by omega) (by omega) h2 with ⟨rfl, p, rfl⟩ | ⟨l2, j2, rfl, rfl, h5, h6⟩
      · cases h; exact .inl ⟨rfl, p, rfl⟩
      · cases h; exact .inr ⟨_, j2, rfl, rfl, by omega, h6⟩
theorem own_base {w : World} {b b' e z n : Nat} {v : Value} {xs : List Value} (h : w.ownsRow b e z v n xs) (hb : b' ≤ b) : w.ownsRow b' e z v n xs := by
  refine ⟨h.1, ?_⟩
  rcases h.2 with h | ⟨g, cap, cur, h1, h2, r⟩
  · exact .inl h
  · exact .inr ⟨g, cap, cur, h1, by omega, r⟩
end Go.Proofs.YtkbmolodljenjaaDoor
