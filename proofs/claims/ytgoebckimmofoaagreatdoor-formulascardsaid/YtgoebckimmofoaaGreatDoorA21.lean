import Derived.Test.YtgoebckimmofoaaGreatDoorA20
import Derived.Test.YtgoebckimmofoaaGreatDoorA18
import Derived.Test.YtgoebckimmofoaaGreatDoorA1
import Derived.Deep.RegionHeld3
import Derived.Deep.OwnRows
import Derived.Test.YtgoebckimmofoaaGreatDoorA8
import Derived.Test.YtgoebckimmofoaaGreatDoorA17
/- The document's nameless, walked; what formulas are read. Our own text. -/
namespace Go.Proofs.YtgoebckimmofoaaGreatDoor
open Go.RowKit Go.Lib
/-- Only the signs there are. -/
def Fm.Ok : Fm → Prop
  | ⟨o, c, 0, _⟩ => o = 84 ∨ (o = 99 ∧ PC c)
  | ⟨o, _, 1, k⟩ => (o = 33 ∨ o = 88 ∨ o = 70 ∨ o = 71) ∧ (k 0).Ok
  | ⟨o, _, 2, k⟩ => (o = 38 ∨ o = 124 ∨ o = 85 ∨ o = 82 ∨ o = 87) ∧ (k 0).Ok ∧ (k 1).Ok
  | ⟨_, _, _ + 3, _⟩ => False
theorem ok_tt : Fm.tt.Ok := .inl rfl
theorem ok_un {o : Nat} {a : Fm} (ho : o = 33 ∨ o = 88 ∨ o = 70 ∨ o = 71) (h : a.Ok) : (Fm.un o a).Ok := ⟨ho, h⟩
theorem ok_bin {o : Nat} {a b : Fm} (ho : o = 38 ∨ o = 124 ∨ o = 85 ∨ o = 82 ∨ o = 87) (h : a.Ok) (k : b.Ok) : (Fm.bin o a b).Ok := ⟨ho, h, k⟩
theorem pF_ok (s : ByteArray) : ∀ (n m : Nat) (x : FSt), (pF s n m x).1.Ok := by
  intro n
  induction n with
  | zero => intro m x; exact ok_tt
  | succ n ih =>
    intro m x
    match m with
    | 0 =>
      rw [pF0]
      split
      · exact ok_un (by omega) (ih _ _)
      · split
        · exact ok_un (by omega) (ih _ _)
        · split
          · exact ok_un (by omega) (ih _ _)
          · split
            · exact ok_un (by omega) (ih _ _)
            · split
              · exact ok_tt
              · split
                · exact ih _ _
                · split
                  · next e => exact .inr ⟨rfl, qCond_rng e⟩
                  · exact ok_tt
    | 1 =>
      rw [pF1]
      dsimp only
      split
      · exact ok_bin (by omega) (ih _ _) (ih _ _)
      · split
        · exact ok_bin (by omega) (ih _ _) (ih _ _)
        · split
          · exact ok_bin (by omega) (ih _ _) (ih _ _)
          · exact ih _ _
    | 2 =>
      rw [pF2]
      dsimp only
      split
      · exact ok_bin (by omega) (ih _ _) (ih _ _)
      · exact ih _ _
    | m + 3 =>
      rw [pF3]
      dsimp only
      split
      · exact ok_bin (by omega) (ih _ _) (ih _ _)
      · exact ih _ _
theorem qForm_ok (s : ByteArray) : (qForm s).1.Ok := pF_ok s _ _ _
/-- The first name that no variable has. -/
def nmF (nv : Nat) : Fm → Int
  | ⟨o, c, 0, _⟩ => if o = 99 then unnamed nv c.1 c.2 else -1
  | ⟨_, _, 1, k⟩ => nmF nv (k 0)
  | ⟨_, _, 2, k⟩ => if 0 ≤ nmF nv (k 0) then nmF nv (k 0) else nmF nv (k 1)
  | ⟨_, _, _ + 3, _⟩ => -1
theorem nmF_neg (nv : Nat) : ∀ t : Fm, t.Ok → ¬ (0 ≤ nmF nv t) → nmF nv t = -1
  | ⟨o, c, 0, _⟩, ho, h => by
    unfold nmF at h ⊢
    rcases ho with rfl | ⟨rfl, hc⟩
    · rfl
    · simp only [if_true] at h ⊢
      unfold unnamed at h ⊢
      obtain ⟨⟨_, _, h1⟩, _, _, h2⟩ := hc
      split at h
      · omega
      · split at h
        · omega
        · next h3 h4 => rw [if_neg h3, if_neg h4]
  | ⟨_, _, 1, k⟩, ho, h => nmF_neg nv (k 0) ho.2 h
  | ⟨_, _, 2, k⟩, ho, h => by
    unfold nmF at h ⊢
    split at h
    · omega
    · next h1 => rw [if_neg h1]; exact nmF_neg nv (k 1) ho.2.2 h
  | ⟨_, _, _ + 3, _⟩, ho, _ => False.elim ho
set_option maxRecDepth 100000 in
set_option maxHeartbeats 1600000 in
theorem nameless_any (nv : Nat) (s : ByteArray) (ao aor : Option Addr) (cap nr capr : Nat) (t : Fm) : ∀ (L : Nat) (vs : List Value) (w : World), t.Ok → NV L s w t vs →
    Calls Tryz.prog 41 #[.agg #[.slice ao nv cap, .slice aor nr capr], .agg vs.toArray] w fun e w' => e = .returned (.int .i64 (nmF nv t)) ∧ Below w.heap.size w w' := by
  induction t with
  | mk o c n k ih =>
    intro L vs w ho hv
    match n, k, ih, ho, hv with
    | 0, k, ih, ho, hv =>
      rcases ho with rfl | ⟨rfl, hc⟩
      · have e : vs = [.int .u8 84, .int .i64 0, .int .i64 0, .int .i64 0, .int .i64 0, .int .i64 0, .int .i64 0, .int .u8 0, .slice none 0 0] := hv
        have hR : Put (nmF nv ⟨84, c, 0, k⟩ = -1) := ⟨rfl⟩
        subst e
        clear ih hv
        go_enter Tryz.func41, Tryz.ntmps41
        go_wp2_with fail
        go_loopg [5] 0 (fun gk iv wr => iv = .int .i64 0 ∧ Below w.heap.size w wr ∧ wr.cell? ⟨w.heap.size + 1, 8, none⟩ = some (.slice none 0 0))
        case atStart => exact ⟨rfl, ((Below.refl _ _).alloc (Nat.le_refl _) _).alloc (by simp) _, by
          have := heap_alloc_new (w.alloc (.cells #[.slice ao nv cap, .slice aor nr capr] 65)) (.cells #[.int .u8 84, .int .i64 0, .int .i64 0, .int .i64 0, .int .i64 0, .int .i64 0, .int .i64 0, .int .u8 0, .slice none 0 0] 90)
          rw [World.size_alloc] at this
          exact (blk9 this).1.2.2.2.2.2.2.2.2⟩
        case round =>
          obtain ⟨rfl, hbr, hc8⟩ := hrel
          have HBr : Put (_) := ⟨hbr⟩
          clear hbr
          go_wp2
          go_ret
          exact ⟨by rw [hR.out]; rfl, HBr.out⟩
      · have e : vs = .int .u8 99 :: c7 s c ++ [.slice none 0 0] := hv
        unfold c7 at e
        subst e
        clear ih hv
        have hR : Put (nmF nv ⟨99, c, 0, k⟩ = unnamed nv c.1 c.2) := ⟨rfl⟩
        go_enter Tryz.func41, Tryz.ntmps41
        go_wp2_with fail
        refine (unnamed_any nv c.1 c.2 ao aor cap nr capr).mono ?_
        rintro e w1 ⟨rfl, hb1⟩
        have HB : Put (_) := ⟨hb1⟩
        clear hb1
        go_wp2
        go_ret
        exact ⟨by rw [hR.out]; rfl, (((Below.refl _ _).alloc (Nat.le_refl _) _).alloc (by simp) _).trans (HB.out.mono (by simp; omega))⟩
    | 1, k, ih, ho, hv =>
      obtain ⟨hop, hok⟩ := ho
      obtain ⟨b, cp, us, e, hLb, hblk, hNV⟩ := hv
      subst e
      obtain ⟨y0, y1, y2, y3, y4, y5, y6, y7, y8, rfl⟩ := len9 hNV.len
      have ho9 : ¬ (o = 99) := by omega
      have ho9' : ¬ ((o : Int) = 99) := by omega
      have hbl := lt_of_block hblk
      have HC : Put (∀ wr, Below w.heap.size w wr → Calls Tryz.prog 41 #[.agg #[.slice ao nv cap, .slice aor nr capr], .agg #[y0, y1, y2, y3, y4, y5, y6, y7, y8]] wr fun e w' => e = .returned (.int .i64 (nmF nv (k 0))) ∧ Below wr.heap.size wr w') := ⟨fun wr hb => ih 0 L _ wr hok (hNV.keep (Nat.le_refl _) (fun k _ h2 => hb.block k h2))⟩
      have hR : Put (nmF nv ⟨o, c, 1, k⟩ = nmF nv (k 0)) := ⟨rfl⟩
      have HN : Put (¬ (0 ≤ nmF nv (k 0)) → nmF nv (k 0) = -1) := ⟨nmF_neg nv _ hok⟩
      have HBlk : Put (_) := ⟨hblk⟩
      generalize hX : nmF nv (k 0) = X at *
      clear ih hNV hop hok hblk hX
      unfold z7
      go_enter Tryz.func41, Tryz.ntmps41
      go_wp2_with fail
      generalize hW : (w.alloc (.cells #[.slice ao nv cap, .slice aor nr capr] 65)).alloc (.cells #[.int .u8 o, .int .i64 0, .int .i64 0, .int .i64 0, .int .i64 0, .int .i64 0, .int .i64 0, .int .u8 0, .slice (some ⟨b, 0, none⟩) 1 cp] 90) = W at *
      have HW1 : Put (Below w.heap.size w W) := ⟨by rw [← hW]; exact ((Below.refl _ _).alloc (Nat.le_refl _) _).alloc (by simp) _⟩
      have HW2 : Put (W.heap.size = w.heap.size + 2) := ⟨by rw [← hW]; simp⟩
      have HM0 : Put (W.heap[w.heap.size]? = some (.cells #[.slice ao nv cap, .slice aor nr capr] 65 (0, 0))) := ⟨by rw [← hW, Below.heap_alloc _ _ _ (by simp), heap_alloc_new]⟩
      have HM1 : Put (W.heap[w.heap.size + 1]? = some (.cells #[.int .u8 o, .int .i64 0, .int .i64 0, .int .i64 0, .int .i64 0, .int .i64 0, .int .i64 0, .int .u8 0, .slice (some ⟨b, 0, none⟩) 1 cp] 90 (0, 0))) := ⟨by
        rw [← hW]
        have := heap_alloc_new (w.alloc (.cells #[.slice ao nv cap, .slice aor nr capr] 65)) (.cells #[.int .u8 o, .int .i64 0, .int .i64 0, .int .i64 0, .int .i64 0, .int .i64 0, .int .i64 0, .int .u8 0, .slice (some ⟨b, 0, none⟩) 1 cp] 90)
        simpa using this⟩
      clear hW
      go_loopg [5] 1 (fun gk iv wr => ∃ i : Nat, iv = .int .i64 i ∧ i + gk = 1 ∧ Put (Below W.heap.size W wr) ∧ Put (1 ≤ i → X = -1))
      case atStart => exact ⟨0, rfl, rfl, ⟨Below.refl _ _⟩, ⟨fun h => absurd h (by omega)⟩⟩
      case round =>
        obtain ⟨i, rfl, hik, HBr, HPi⟩ := hrel
        have hm0 := (HBr.out.block _ (lt_of_block HM0.out)).trans HM0.out
        have hm1 := (HBr.out.block _ (lt_of_block HM1.out)).trans HM1.out
        have q0 : wr.cell? ⟨w.heap.size, 0, none⟩ = some (.slice ao nv cap) := by simp [World.cell?, hm0]
        have q1 : wr.cell? ⟨w.heap.size, 1, none⟩ = some (.slice aor nr capr) := by simp [World.cell?, hm0]
        have q8 : wr.cell? ⟨w.heap.size + 1, 8, none⟩ = some (.slice (some ⟨b, 0, none⟩) 1 cp) := by simp [World.cell?, hm1]
        clear hm0 hm1
        obtain rfl | rfl : i = 0 ∨ i = 1 := by omega
        · have hbk := ((HW1.out.trans (HBr.out.mono HW1.out.size)).block b hbl).trans HBlk.out
          obtain ⟨⟨n0, n1, n2, n3, n4, n5, n6, n7, n8⟩, nf⟩ := blk9 hbk
          clear hbk nf
          have HCr : Put (_) := ⟨HC.out wr.drew (HW1.out.trans (HBr.out.mono HW1.out.size)).drew⟩
          go_wp2_with fail
          go_region_law ((go_simp; go_at_call 41; refine HCr.out.mono ?_; rintro e w3 ⟨rfl, hb3⟩))
          all_goals
            have HB3 : Put (Below W.heap.size W w3) := ⟨HBr.out.drew.trans (hb3.mono HBr.out.size)⟩
            clear hb3 HCr HBr
            by_cases hX0 : 0 ≤ X
            · go_wp2
              go_ret
              exact ⟨by rw [hR.out]; rfl, HW1.out.trans (HB3.out.mono HW1.out.size)⟩
            · have HX : Put (X = -1) := ⟨HN.out (by omega)⟩
              go_wp2
              go_roundg (gk - 1)
              case measure => omega
              case rel => exact ⟨1, by go_num, by omega, HB3, ⟨fun _ => HX.out⟩⟩
        · have HX : Put (X = -1) := ⟨HPi.out (by omega)⟩
          clear HPi
          go_wp2
          go_ret
          exact ⟨by rw [hR.out, HX.out]; rfl, HW1.out.trans (HBr.out.mono HW1.out.size)⟩
    | 2, k, ih, ho, hv =>
      obtain ⟨hop, hok, hok1⟩ := ho
      obtain ⟨b, cp, us, ts, e, hLb, hblk, hNV, hNV1⟩ := hv
      subst e
      obtain ⟨y0, y1, y2, y3, y4, y5, y6, y7, y8, rfl⟩ := len9 hNV.len
      obtain ⟨t0, t1, t2, t3, t4, t5, t6, t7, t8, rfl⟩ := len9 hNV1.len
      replace hblk : w.heap[b]? = some (.cells #[y0, y1, y2, y3, y4, y5, y6, y7, y8, t0, t1, t2, t3, t4, t5, t6, t7, t8] 90 (0, 0)) := hblk
      have ho9 : ¬ (o = 99) := by omega
      have ho9' : ¬ ((o : Int) = 99) := by omega
      have hbl := lt_of_block hblk
      have HC : Put (∀ wr, Below w.heap.size w wr → Calls Tryz.prog 41 #[.agg #[.slice ao nv cap, .slice aor nr capr], .agg #[y0, y1, y2, y3, y4, y5, y6, y7, y8]] wr fun e w' => e = .returned (.int .i64 (nmF nv (k 0))) ∧ Below wr.heap.size wr w') := ⟨fun wr hb => ih 0 L _ wr hok (hNV.keep (Nat.le_refl _) (fun k _ h2 => hb.block k h2))⟩
      have HC1 : Put (∀ wr, Below w.heap.size w wr → Calls Tryz.prog 41 #[.agg #[.slice ao nv cap, .slice aor nr capr], .agg #[t0, t1, t2, t3, t4, t5, t6, t7, t8]] wr fun e w' => e = .returned (.int .i64 (nmF nv (k 1))) ∧ Below wr.heap.size wr w') := ⟨fun wr hb => ih 1 L _ wr hok1 (hNV1.keep (Nat.le_refl _) (fun k _ h2 => hb.block k h2))⟩
      have hR : Put (nmF nv ⟨o, c, 2, k⟩ = if 0 ≤ nmF nv (k 0) then nmF nv (k 0) else nmF nv (k 1)) := ⟨rfl⟩
      have HN : Put (¬ (0 ≤ nmF nv (k 1)) → nmF nv (k 1) = -1) := ⟨nmF_neg nv _ hok1⟩
      have HBlk : Put (_) := ⟨hblk⟩
      generalize hX : nmF nv (k 0) = X at *
      generalize hY : nmF nv (k 1) = Y at *
      clear ih hNV hNV1 hop hok hok1 hblk hX hY
      unfold z7
      go_enter Tryz.func41, Tryz.ntmps41
      go_wp2_with fail
      generalize hW : (w.alloc (.cells #[.slice ao nv cap, .slice aor nr capr] 65)).alloc (.cells #[.int .u8 o, .int .i64 0, .int .i64 0, .int .i64 0, .int .i64 0, .int .i64 0, .int .i64 0, .int .u8 0, .slice (some ⟨b, 0, none⟩) 2 cp] 90) = W at *
      have HW1 : Put (Below w.heap.size w W) := ⟨by rw [← hW]; exact ((Below.refl _ _).alloc (Nat.le_refl _) _).alloc (by simp) _⟩
      have HW2 : Put (W.heap.size = w.heap.size + 2) := ⟨by rw [← hW]; simp⟩
      have HM0 : Put (W.heap[w.heap.size]? = some (.cells #[.slice ao nv cap, .slice aor nr capr] 65 (0, 0))) := ⟨by rw [← hW, Below.heap_alloc _ _ _ (by simp), heap_alloc_new]⟩
      have HM1 : Put (W.heap[w.heap.size + 1]? = some (.cells #[.int .u8 o, .int .i64 0, .int .i64 0, .int .i64 0, .int .i64 0, .int .i64 0, .int .i64 0, .int .u8 0, .slice (some ⟨b, 0, none⟩) 2 cp] 90 (0, 0))) := ⟨by
        rw [← hW]
        have := heap_alloc_new (w.alloc (.cells #[.slice ao nv cap, .slice aor nr capr] 65)) (.cells #[.int .u8 o, .int .i64 0, .int .i64 0, .int .i64 0, .int .i64 0, .int .i64 0, .int .i64 0, .int .u8 0, .slice (some ⟨b, 0, none⟩) 2 cp] 90)
        simpa using this⟩
      clear hW
      go_loopg [5] 2 (fun gk iv wr => ∃ i : Nat, iv = .int .i64 i ∧ i + gk = 2 ∧ Put (Below W.heap.size W wr) ∧ Put ((1 ≤ i → ¬ (0 ≤ X)) ∧ (2 ≤ i → Y = -1)))
      case atStart => exact ⟨0, rfl, rfl, ⟨Below.refl _ _⟩, ⟨fun h => absurd h (by omega), fun h => absurd h (by omega)⟩⟩
      case round =>
        obtain ⟨i, rfl, hik, HBr, HPi⟩ := hrel
        have hm0 := (HBr.out.block _ (lt_of_block HM0.out)).trans HM0.out
        have hm1 := (HBr.out.block _ (lt_of_block HM1.out)).trans HM1.out
        have q0 : wr.cell? ⟨w.heap.size, 0, none⟩ = some (.slice ao nv cap) := by simp [World.cell?, hm0]
        have q1 : wr.cell? ⟨w.heap.size, 1, none⟩ = some (.slice aor nr capr) := by simp [World.cell?, hm0]
        have q8 : wr.cell? ⟨w.heap.size + 1, 8, none⟩ = some (.slice (some ⟨b, 0, none⟩) 2 cp) := by simp [World.cell?, hm1]
        clear hm0 hm1
        obtain rfl | rfl | rfl : i = 0 ∨ i = 1 ∨ i = 2 := by omega
        · have hbk := ((HW1.out.trans (HBr.out.mono HW1.out.size)).block b hbl).trans HBlk.out
          have n0 : wr.cell? ⟨b, 0, none⟩ = some y0 := by simp [World.cell?, hbk]
          have n1 : wr.cell? ⟨b, 1, none⟩ = some y1 := by simp [World.cell?, hbk]
          have n2 : wr.cell? ⟨b, 2, none⟩ = some y2 := by simp [World.cell?, hbk]
          have n3 : wr.cell? ⟨b, 3, none⟩ = some y3 := by simp [World.cell?, hbk]
          have n4 : wr.cell? ⟨b, 4, none⟩ = some y4 := by simp [World.cell?, hbk]
          have n5 : wr.cell? ⟨b, 5, none⟩ = some y5 := by simp [World.cell?, hbk]
          have n6 : wr.cell? ⟨b, 6, none⟩ = some y6 := by simp [World.cell?, hbk]
          have n7 : wr.cell? ⟨b, 7, none⟩ = some y7 := by simp [World.cell?, hbk]
          have n8 : wr.cell? ⟨b, 8, none⟩ = some y8 := by simp [World.cell?, hbk]
          clear hbk HPi
          have HCr : Put (_) := ⟨HC.out wr.drew (HW1.out.trans (HBr.out.mono HW1.out.size)).drew⟩
          go_wp2_with fail
          go_region_law ((go_simp; go_at_call 41; refine HCr.out.mono ?_; rintro e w3 ⟨rfl, hb3⟩))
          all_goals
            have HB3 : Put (Below W.heap.size W w3) := ⟨HBr.out.drew.trans (hb3.mono HBr.out.size)⟩
            clear hb3 HCr HBr
            by_cases hX0 : 0 ≤ X
            · go_wp2
              go_ret
              exact ⟨by rw [hR.out, if_pos hX0]; rfl, HW1.out.trans (HB3.out.mono HW1.out.size)⟩
            · have HX : Put (¬ (0 ≤ X)) := ⟨hX0⟩
              go_wp2
              go_roundg (gk - 1)
              case measure => omega
              case rel => exact ⟨1, by go_num, by omega, HB3, ⟨fun _ => HX.out, fun h => absurd h (by omega)⟩⟩
        · have hbk := ((HW1.out.trans (HBr.out.mono HW1.out.size)).block b hbl).trans HBlk.out
          have n0 : wr.cell? ⟨b, 9, none⟩ = some t0 := by simp [World.cell?, hbk]
          have n1 : wr.cell? ⟨b, 10, none⟩ = some t1 := by simp [World.cell?, hbk]
          have n2 : wr.cell? ⟨b, 11, none⟩ = some t2 := by simp [World.cell?, hbk]
          have n3 : wr.cell? ⟨b, 12, none⟩ = some t3 := by simp [World.cell?, hbk]
          have n4 : wr.cell? ⟨b, 13, none⟩ = some t4 := by simp [World.cell?, hbk]
          have n5 : wr.cell? ⟨b, 14, none⟩ = some t5 := by simp [World.cell?, hbk]
          have n6 : wr.cell? ⟨b, 15, none⟩ = some t6 := by simp [World.cell?, hbk]
          have n7 : wr.cell? ⟨b, 16, none⟩ = some t7 := by simp [World.cell?, hbk]
          have n8 : wr.cell? ⟨b, 17, none⟩ = some t8 := by simp [World.cell?, hbk]
          have HX0 : Put (¬ (0 ≤ X)) := ⟨HPi.out.1 (by omega)⟩
          clear hbk HPi
          have HCr : Put (_) := ⟨HC1.out wr.drew (HW1.out.trans (HBr.out.mono HW1.out.size)).drew⟩
          go_wp2_with fail
          go_region_law ((go_simp; go_at_call 41; refine HCr.out.mono ?_; rintro e w3 ⟨rfl, hb3⟩))
          all_goals
            have HB3 : Put (Below W.heap.size W w3) := ⟨HBr.out.drew.trans (hb3.mono HBr.out.size)⟩
            clear hb3 HCr HBr
            by_cases hX0 : 0 ≤ Y
            · go_wp2
              go_ret
              exact ⟨by rw [hR.out, if_neg (show ¬ (0 ≤ X) by have := HX0.out; omega)]; rfl, HW1.out.trans (HB3.out.mono HW1.out.size)⟩
            · have HX : Put (Y = -1) := ⟨HN.out (by omega)⟩
              go_wp2
              go_roundg (gk - 1)
              case measure => omega
              case rel => exact ⟨2, by go_num, by omega, HB3, ⟨fun _ => HX0.out, fun _ => HX.out⟩⟩
        · have HX : Put (nmF nv ⟨o, c, 2, k⟩ = -1) := ⟨by rw [hR.out, if_neg (HPi.out.1 (by omega)), HPi.out.2 (by omega)]⟩
          clear HPi
          go_wp2
          go_ret
          exact ⟨by rw [HX.out]; rfl, HW1.out.trans (HBr.out.mono HW1.out.size)⟩
    | n + 3, k, ih, ho, hv => exact False.elim ho
end Go.Proofs.YtgoebckimmofoaaGreatDoor

/- The document's Formula, walked. Our own text. -/
namespace Go.Proofs.YtgoebckimmofoaaGreatDoor
open Go.RowKit Go.Lib
/-- How many variables a good model has. -/
def nvM (m : ByteArray) : Nat := match qRead m with
  | (some (va, _), _) => va.length
  | _ => 0
/-- What Formula answers where the model is good and the formula not too long. -/
def fErr (m : ByteArray) (r : Fm × FSt) : Nat × Int := match r.2.q with
  | .error p => (2, (p : Int))
  | .ok _ => if 0 ≤ r.2.deep then (6, r.2.deep) else if 0 ≤ nmF (nvM m) r.1 then (3, nmF (nvM m) r.1) else if 4 < r.2.wgt then (7, 0) else (0, 0)
def rForm (m f : ByteArray) : Nat × Int := if (rCheck m).1 ≠ 0 then rCheck m else if 60 < f.size then (1, 0) else fErr m (qForm f)
set_option maxRecDepth 100000 in
set_option maxHeartbeats 1600000 in
theorem rform_any (m f : ByteArray) (w : World) (hm : m.size ≤ maxLen) : Calls Tryz.prog 21 #[.string m, .string f] w fun e w' => e = .returned (.tuple #[.int .i64 ((rForm m f).1 : Nat), .int .i64 (rForm m f).2]) ∧ Below w.heap.size w w' := by
  have HC : Put (_) := ⟨rcheck_any m w hm⟩
  by_cases h0 : (rCheck m).1 = 0
  · obtain ⟨hle, va, ra, q', hq, hw⟩ := rCheck_ok h0
    have hp0 : (rCheck m).2 = 0 := by
      unfold rCheck
      rw [if_neg (by omega), hq]
      obtain ⟨e1, e2⟩ := wrong_none hw
      show (wrongP va ra).2 = 0
      unfold wrongP
      rw [e1, e2]; rfl
    rw [h0, hp0] at HC
    have hnv : nvM m = va.length := by unfold nvM; rw [hq]
    by_cases hl : 60 < f.size
    · have hR : Put (rForm m f = (1, 0)) := ⟨by unfold rForm; rw [if_neg (by omega), if_pos hl]⟩
      have hl' : (60 : Int) < (f.size : Int) := by omega
      rw [hR.out]
      clear hq hw hnv hR
      go_enter Tryz.func21, Tryz.ntmps21
      go_wp2_with fail
      refine HC.out.mono ?_
      rintro e w1 ⟨rfl, hb1⟩
      have HB1 : Put (_) := ⟨hb1⟩
      clear hb1 HC
      go_wp2
      go_ret2
      exact ⟨rfl, HB1.out⟩
    · have hl' : ¬ ((60 : Int) < (f.size : Int)) := by omega
      have hR : rForm m f = fErr m (qForm f) := by unfold rForm; rw [if_neg (by omega), if_neg hl]
      have HQ : Put (qRead m = (some (va, ra), q')) := ⟨hq⟩
      have HOk := qForm_ok f
      rw [hR]
      clear hR hq hw
      have HF : Put (∀ w, Calls Tryz.prog 40 #[.string f] w (FormPost f w)) := ⟨fun w => form_any (by omega)⟩
      unfold FormPost at HF
      generalize hr : qForm f = r at *
      have HO : Put (r.1.Ok) := ⟨HOk⟩
      clear hr HOk
      obtain ⟨R, hR⟩ : ∃ R, R = fErr m r := ⟨_, rfl⟩
      rw [← hR]
      have HR : Put (_) := ⟨hR⟩
      unfold fErr at HR
      rw [hnv] at HR
      clear hR hnv
      go_enter Tryz.func21, Tryz.ntmps21
      go_wp2_with fail
      refine HC.out.mono ?_
      rintro e w1 ⟨rfl, hb1⟩
      have HB1 : Put (_) := ⟨hb1⟩
      clear hb1 HC
      go_wp2_with fail
      refine (HF.out _).mono ?_
      rintro e w2 ⟨B, P, hB, hP, hfb, hb2, o, a0, a1, a2, b0, b1, b2, g, p, l, c, rfl, hnv2⟩
      have HNV : Put (_) := ⟨hnv2⟩
      have hf3 := hfb.alloc (.cells #[.int .u8 o, .int .i64 a0, .int .i64 a1, .int .i64 a2, .int .i64 b0, .int .i64 b1, .int .i64 b2, .int .u8 g, .slice p l c] 90)
      have c0 := hf3.c0
      have c1 := hf3.c1
      have c3 := hf3.c3
      have lP := hfb.lt
      have lB := hfb.r.lt
      have hB12 := HB1.out.trans (hb2.mono HB1.out.size)
      have hB3 := hB12.alloc hB12.size (.cells #[.int .u8 o, .int .i64 a0, .int .i64 a1, .int .i64 a2, .int .i64 b0, .int .i64 b1, .int .i64 b2, .int .u8 g, .slice p l c] 90)
      have HB3 : Put (_) := ⟨hB3⟩
      have HF3 : Put (_) := ⟨hf3⟩
      have HFB : Put (_) := ⟨hfb⟩
      have HS : Put (w.heap.size ≤ w1.heap.size ∧ w1.heap.size ≤ w2.heap.size) := ⟨HB1.out.size, hb2.size⟩
      clear hB12 hB3 hnv2 hb2 HF
      cases hq : r.2.q with
      | error p' =>
        obtain ⟨i, hile, hrc⟩ : ∃ i, i ≤ f.size ∧ RC B f i p' _ := by have := hf3.r; rw [hq] at this; exact this
        have rc2 := hrc.c2
        have h0 : ¬ ((p' : Int) < 0) := by omega
        have h0' : (0 : Int) ≤ (p' : Int) := by omega
        have hRR : R = (2, (p' : Int)) := by rw [HR.out, hq]
        subst hRR
        clear hrc hf3 hfb HR
        go_wp2_with fail
        go_region
        all_goals
          go_wp2
          go_ret2
          exact ⟨rfl, HB3.out.drew⟩
      | ok i =>
        obtain ⟨hile, hrc⟩ : i ≤ f.size ∧ RC B f i (-1) _ := by have := hf3.r; rw [hq] at this; exact this
        have rc2 := hrc.c2
        rw [hq] at HR
        by_cases hd : 0 ≤ r.2.deep
        · have hRR : R = (6, r.2.deep) := by rw [HR.out]; exact if_pos hd
          subst hRR
          clear hrc hf3 hfb HR
          go_wp2_with fail
          go_region
          all_goals
            go_wp2
            go_ret2
            exact ⟨rfl, HB3.out.drew⟩
        · have HR2 : Put (R = if 0 ≤ nmF va.length r.1 then (3, nmF va.length r.1) else if 4 < r.2.wgt then (7, 0) else (0, 0)) := ⟨by rw [HR.out]; exact if_neg hd⟩
          clear hrc hf3 hfb HR
          go_wp2_with fail
          refine (rread_any hle HQ.out).mono ?_
          rintro e w4 ⟨⟨ao, aor, cap, capr, vs, rs, bad, rfl, _, _, _, _, h3, h8, hfin⟩, hb4⟩
          have hvl : va.length = vs.length := by
            rcases hfin with ⟨p, h1, _⟩ | ⟨h1, _⟩
            · cases h1
            · obtain ⟨rfl, rfl⟩ : va = vs.map V3.ast ∧ ra = rs.map R2.ast := by simpa using h1
              simp
          rw [hvl] at HR2
          clear hfin hvl
          have hA4 := (hb4.block _ (by simp)).trans (heap_alloc_new w2 (.cells #[.int .u8 o, .int .i64 a0, .int .i64 a1, .int .i64 a2, .int .i64 b0, .int .i64 b1, .int .i64 b2, .int .u8 g, .slice p l c] 90))
          obtain ⟨⟨n0, n1, n2, n3, n4, n5, n6, n7, n8⟩, nf⟩ := blk9 hA4
          have l2 := lt_of_block hA4
          have HB4 : Put (_) := ⟨hb4⟩
          have c3' : w4.cell? ⟨P, 3, none⟩ = some (.int .i64 r.2.wgt) := by
            rw [hb4.cell (p := ⟨P, 3, none⟩) (by show P < _; simp; omega)]; exact c3
          have HB5 : Put (Below w4.heap.size w4 _) := ⟨(Below.refl _ _).alloc (Nat.le_refl _) (.cells #[.slice ao vs.length cap, .slice aor rs.length capr] 65)⟩
          have HN : Put (_) := ⟨nameless_any vs.length f ao aor cap rs.length capr r.1 w1.heap.size [.int .u8 o, .int .i64 a0, .int .i64 a1, .int .i64 a2, .int .i64 b0, .int .i64 b1, .int .i64 b2, .int .u8 g, .slice p l c] (w4.alloc (.cells #[.slice ao vs.length cap, .slice aor rs.length capr] 65)) HO.out ((HNV.out i hq).keep (Nat.le_refl _) (fun k _ h2 => by
            rw [Below.heap_alloc _ _ _ (by have := hb4.size; simp at this; omega), hb4.block k (by simp; omega), Below.heap_alloc _ _ _ h2]))⟩
          clear hA4 hb4 nf c0 c1 c3 rc2
          generalize hX : nmF vs.length r.1 = X at *
          clear hX
          go_wp2_with fail
          refine HN.out.mono ?_
          rintro e w6 ⟨rfl, hb6⟩
          have hB : Below w.heap.size w w6 := (HB3.out.trans (HB4.out.mono HB3.out.size)).trans ((HB5.out.mono (Nat.le_trans HB3.out.size HB4.out.size)).trans (hb6.mono (Nat.le_trans (Nat.le_trans HB3.out.size HB4.out.size) HB5.out.size)))
          have HB : Put (_) := ⟨hB⟩
          have d3 : w6.cell? ⟨P, 3, none⟩ = some (.int .i64 r.2.wgt) := by
            rw [hb6.cell (p := ⟨P, 3, none⟩) (by show P < _; have := HB4.out.size; simp at this ⊢; omega), HB5.out.cell (p := ⟨P, 3, none⟩) (by show P < _; have := HB4.out.size; simp at this; omega)]; exact c3'
          clear hB hb6 c3' n0 n1 n2 n3 n4 n5 n6 n7 n8 HN HB3 HB4 HB5 HNV HFB HF3
          by_cases hX0 : 0 ≤ X
          · have hRR : R = (3, X) := by rw [HR2.out, if_pos hX0]
            subst hRR
            clear HR2
            go_wp2
            go_ret2
            exact ⟨rfl, HB.out⟩
          · by_cases hw4 : 4 < r.2.wgt
            · have hRR : R = (7, 0) := by rw [HR2.out, if_neg hX0, if_pos hw4]
              subst hRR
              have hw4' : (4 : Int) < (r.2.wgt : Int) := by omega
              clear HR2
              go_wp2
              go_ret2
              exact ⟨rfl, HB.out⟩
            · have hRR : R = (0, 0) := by rw [HR2.out, if_neg hX0, if_neg hw4]
              subst hRR
              have hw4' : ¬ ((4 : Int) < (r.2.wgt : Int)) := by omega
              clear HR2
              go_wp2
              go_ret2
              exact ⟨rfl, HB.out⟩
  · have hR : Put (rForm m f = rCheck m) := ⟨by unfold rForm; rw [if_pos h0]⟩
    rw [hR.out]
    have hne : (((rCheck m).1 : Int) == 0) = false := by simp; exact h0
    have hne' : ¬ ((rCheck m).1 : Int) = 0 := by omega
    clear hR
    generalize (rCheck m).1 = a at *
    generalize (rCheck m).2 = b at *
    go_enter Tryz.func21, Tryz.ntmps21
    go_wp2_with fail
    refine HC.out.mono ?_
    rintro e w1 ⟨rfl, hb1⟩
    have HB1 : Put (_) := ⟨hb1⟩
    clear hb1 HC
    go_wp2
    go_ret2
    exact ⟨rfl, HB1.out⟩
end Go.Proofs.YtgoebckimmofoaaGreatDoor

/- On a lasso: what goes on step by step, by two rounds back. Our own text. -/
namespace Go.Proofs.YtgoebckimmofoaaGreatDoor
/-- The place behind place k. -/
def nxt (n loop k : Nat) : Nat := if k + 1 < n then k + 1 else loop
section
variable {n loop : Nat} {a b : Nat → Bool} {wk : Bool}
end
end Go.Proofs.YtgoebckimmofoaaGreatDoor

/- The document's Bound: what is wrong with a lasso. Our own text. -/
namespace Go.Proofs.YtgoebckimmofoaaGreatDoor
open Go.RowKit Go.Lib

/-- A list of texts that lies somewhere. -/
def Reads (w : World) (v : Value) (L : List ByteArray) : Prop :=
  ∃ (ao : Option Addr) (cap : Nat), v = .slice ao L.length cap ∧ (0 < L.length → ∃ b o, ao = some ⟨b, o, none⟩ ∧ b < w.heap.size ∧ ∀ i (h : i < L.length), w.cell? ⟨b, o + i, none⟩ = some (.string L[i]))
theorem Reads.below {w w' : World} {v : Value} {L : List ByteArray} (h : Reads w v L) (hb : Below w.heap.size w w') : Reads w' v L := by
  obtain ⟨ao, cap, rfl, hc⟩ := h
  refine ⟨ao, cap, rfl, fun hp => ?_⟩
  obtain ⟨b, o, rfl, hl, hcell⟩ := hc hp
  exact ⟨b, o, rfl, Nat.lt_of_lt_of_le hl hb.size, fun i hi => (hb.cell (p := ⟨b, o + i, none⟩) hl).trans (hcell i hi)⟩

section
variable {w : World}
end
end Go.Proofs.YtgoebckimmofoaaGreatDoor

/- The document's next, ever, meet, until, walked. Our own text. -/
namespace Go.Proofs.YtgoebckimmofoaaGreatDoor
open Go.RowKit Go.Lib
def bls (l : List Bool) : List Value := l.map Value.bool
theorem made_bls (n : Nat) : (madeCells #[Value.bool false] n).toList = bls (List.replicate n false) := by
  apply List.ext_getElem
  · simp [madeCells, bls]
  · intro i h1 h2
    simp [madeCells, bls, Nat.mod_one]
section
variable {w : World}
/-- A list of truths can be read. -/
def RdB (w : World) (v : Value) (l : List Bool) : Prop := ∃ g cap, v = .slice (some ⟨g, 0, none⟩) l.length cap ∧ g < w.heap.size ∧ l.length ≤ cap ∧ ∀ k (hk : k < l.length), w.cell? ⟨g, k, none⟩ = some (.bool l[k])
theorem RdB.below {v : Value} {l : List Bool} {w' : World} (h : RdB w v l) (hb : Below w.heap.size w w') : RdB w' v l := by
  obtain ⟨g, cap, e, h2, h3, h4⟩ := h
  exact ⟨g, cap, e, Nat.lt_of_lt_of_le h2 hb.size, h3, fun k hk => (hb.cell (p := ⟨g, k, none⟩) h2).trans (h4 k hk)⟩
end
end Go.Proofs.YtgoebckimmofoaaGreatDoor

/- The document's until, walked. Our own text. -/
namespace Go.Proofs.YtgoebckimmofoaaGreatDoor
open Go.RowKit Go.Lib
/-- The truth at a place of a list. -/
def at_ (l : List Bool) (k : Nat) : Bool := l.getD k false
section
variable {w : World}
end
end Go.Proofs.YtgoebckimmofoaaGreatDoor

/- The digits of a state. Our own text. -/
namespace Go.Proofs.YtgoebckimmofoaaGreatDoor
open Go.RowKit Go.Lib

/-- The digits of a text. -/
def dgs (s : ByteArray) : List Nat := s.data.toList.map (fun b => b.toNat - 48)
end Go.Proofs.YtgoebckimmofoaaGreatDoor

/- The document's Places, walked. Our own text. -/
namespace Go.Proofs.YtgoebckimmofoaaGreatDoor
open Go.RowKit Go.Lib
/-- A condition of a formula, with its sign. -/
def cC (s : ByteArray) (c : Tm × Tm) : C7 := ⟨c.1.1, c.1.2.1, c.1.2.2, c.2.1, c.2.2.1, c.2.2.2, (byteAt s (c.1.2.2.toNat + 1) : Int)⟩
def soS (s : ByteArray) (c : Tm × Tm) (st : ByteArray) : Bool := soC (cC s c) (dgs st)
/-- All names are names of variables. -/
def Fm.Nm (nv : Nat) : Fm → Prop
  | ⟨o, c, 0, _⟩ => o = 99 → c.1.1 < (nv : Int) ∧ c.2.1 < (nv : Int)
  | ⟨_, _, 1, k⟩ => (k 0).Nm nv
  | ⟨_, _, 2, k⟩ => (k 0).Nm nv ∧ (k 1).Nm nv
  | ⟨_, _, _ + 3, _⟩ => True
section
variable {w : World} {s : ByteArray} {L : List ByteArray} {loop : Nat} {ao : Option Addr} {cap : Nat}
end
end Go.Proofs.YtgoebckimmofoaaGreatDoor

/- The document's Places, walked: signs ahead. Our own text. -/
namespace Go.Proofs.YtgoebckimmofoaaGreatDoor
open Go.RowKit Go.Lib
section
variable {w : World} {L : List ByteArray} {loop : Nat} {ao : Option Addr} {cap : Nat}
theorem RdB.len {v : Value} {l : List Bool} {N : Nat} (h : RdB w v l) (hN : l.length = N) : ∃ g c, v = .slice (some ⟨g, 0, none⟩) N c ∧ g < w.heap.size ∧ N ≤ c := by
  subst hN
  obtain ⟨g, c, e, h1, h2, _⟩ := h
  exact ⟨g, c, e, h1, h2⟩
theorem RdB.made (w : World) (N : Nat) : RdB (w.alloc (.cells (madeCells #[Value.bool false] N) 4)) (.slice (some ⟨w.heap.size, 0, none⟩) N N) (List.replicate N false) := by
  refine ⟨w.heap.size, N, by simp, by simp, by simp, fun k hk => ?_⟩
  have h := heap_alloc_new w (.cells (madeCells #[Value.bool false] N) 4)
  simp only [List.length_replicate] at hk
  have hs : (madeCells #[Value.bool false] N)[k]? = some (.bool false) := by
    have e : (madeCells #[Value.bool false] N).toList[k]? = some (.bool false) := by rw [made_bls]; simp [bls, hk]
    simpa using e
  unfold World.cell?
  rw [h]
  simp [hs]
theorem RdB.alloc {v : Value} {l : List Bool} (h : RdB w v l) (o : Obj) : RdB (w.alloc o) v l := h.below ((Below.refl _ _).alloc (Nat.le_refl _) _)
end
end Go.Proofs.YtgoebckimmofoaaGreatDoor

/- The document's Places, walked: signs between. Our own text. -/
namespace Go.Proofs.YtgoebckimmofoaaGreatDoor
open Go.RowKit Go.Lib
section
variable {w : World} {L : List ByteArray} {loop : Nat} {ao : Option Addr} {cap : Nat}
end
end Go.Proofs.YtgoebckimmofoaaGreatDoor

/- The document's Places, as a whole, and Holds. Our own text. -/
namespace Go.Proofs.YtgoebckimmofoaaGreatDoor
open Go.RowKit Go.Lib
theorem rForm_ok {m f : ByteArray} (h : (rForm m f).1 = 0) : (rCheck m).1 = 0 ∧ f.size ≤ 60 ∧ (∃ i, (qForm f).2.q = .ok i) ∧ ¬ (0 ≤ nmF (nvM m) (qForm f).1) ∧ ¬ (0 ≤ (qForm f).2.deep) ∧ (qForm f).2.wgt ≤ 4 ∧ (rForm m f).2 = 0 := by
  unfold rForm at h ⊢
  by_cases h0 : (rCheck m).1 ≠ 0
  · rw [if_pos h0] at h; exact absurd h h0
  · rw [if_neg h0] at h ⊢
    by_cases h1 : 60 < f.size
    · rw [if_pos h1] at h; cases h
    · rw [if_neg h1] at h ⊢
      unfold fErr at h ⊢
      cases hq : (qForm f).2.q with
      | error p => rw [hq] at h; cases h
      | ok i =>
        rw [hq] at h
        simp only at h ⊢
        by_cases h2 : 0 ≤ (qForm f).2.deep
        · rw [if_pos h2] at h; cases h
        · rw [if_neg h2] at h ⊢
          by_cases h3 : 0 ≤ nmF (nvM m) (qForm f).1
          · rw [if_pos h3] at h; cases h
          · rw [if_neg h3] at h ⊢
            by_cases h4 : 4 < (qForm f).2.wgt
            · rw [if_pos h4] at h; cases h
            · rw [if_neg h4]
              exact ⟨by omega, by omega, ⟨i, rfl⟩, h3, h2, by omega, rfl⟩
end Go.Proofs.YtgoebckimmofoaaGreatDoor

/- The code's reader of formulas and the document's: how they are held together. Our own text: no walk in it. -/
namespace Go.Proofs.YtgoebckimmofoaaGreatDoor
open Go.RowKit Go.Lib

/-- What is made of a formula, behind these parts. -/
def tr (s : ByteArray) : Fm → List Pt → G × List Pt
  | ⟨o, c, 0, _⟩, ps => (fun x _ => if o = 84 then true else cdP s c x, ps)
  | ⟨o, _, 1, k⟩, ps => bld o (fun _ _ => true) (tr s (k 0) ps).1 (tr s (k 0) ps).2
  | ⟨o, _, 2, k⟩, ps => bld o (tr s (k 0) ps).1 (tr s (k 1) (tr s (k 0) ps).2).1 (tr s (k 1) (tr s (k 0) ps).2).2
  | ⟨_, _, _ + 3, _⟩, ps => (fun _ _ => false, ps)
theorem fin_no {c : C} {l : ByteArray} (h : waitsP l c.st = false) : c.fin l = c := by
  cases c with
  | mk t opn deep st ps g sg =>
    cases st with
    | nil => rfl
    | cons e st =>
      have h' : inS l e.1 = false := h
      simp [C.fin, endP, h']
theorem fin_yes {c : C} {l : ByteArray} {e : Nat × G} {st : List (Nat × G)} (hs : c.st = e :: st) (h : inS l e.1 = true) : c.fin l = ({ c with st := st, g := (bld e.1 e.2 c.g c.ps).1, ps := (bld e.1 e.2 c.g c.ps).2 } : C).fin l := by
  cases c with
  | mk t opn deep st' ps g sg =>
    simp only at hs
    subst hs
    simp [C.fin, endP, h]

/-- How many signs of time wait. -/
def pend : List (Nat × G) → Nat
  | [] => 0
  | e :: st => wt e.1 + pend st
/-- The document's reader and the code's stand at the same place. -/
structure Rel (s : ByteArray) (x : FSt) (c : C) : Prop where
  q : x.q = .ok c.t.at_
  o : x.opn = c.opn
  d : x.deep = -1 ∧ c.deep = 0 ∨ x.deep = (c.deep : Int) ∧ 0 < c.deep
  g : x.wgt = c.ps.length + pend c.st
  le : c.t.at_ ≤ s.size
  inv : Inv c.t
  ol : c.opn ≤ c.t.at_
/-- The first name that no variable has. -/
def nmO (n : Nat) (φ : Fm) : Option (Nat × Int) := if 0 ≤ nmF n φ then some (3, nmF n φ) else none
/-- What has come of a formula that was read. -/
structure Out (s : ByteArray) (c : C) (φ : Fm) (c' : C) : Prop where
  g : c'.g = (tr s φ c.ps).1
  ps : c'.ps = (tr s φ c.ps).2
  st : c'.st = c.st
  n : c'.t.n = c.t.n
  fl : fl c'.t = (fl c.t).or (nmO c.t.n φ)
  lt : c.t.at_ < c'.t.at_
/-- A formula is read from the label 'one' on: it ends in an error, or F goes on. -/
def Ends (s : ByteArray) (r : Fm × FSt) (c : C) (F : Nat → C → Bool × C) (d : Nat) : Prop := match r.2.q with
  | .error p => ∀ k, Mz s 0 c ≤ k → ∃ cf, fRun s k 0 c = (false, cf) ∧ cf.t.at_ = p
  | .ok _ => ∃ c', Rel s r.2 c' ∧ Out s c r.1 c' ∧ ∀ k, Mz s 0 c ≤ k → ∃ k', 2 * (s.size - c'.t.at_) + d ≤ k' ∧ fRun s k 0 c = F k' c'
def F0 (s : ByteArray) (k : Nat) (c : C) : Bool × C := fRun s k 1 c
def F1 (s : ByteArray) (k : Nat) (c : C) : Bool × C := fRun s k 2 c
def F2 (s : ByteArray) (k : Nat) (c : C) : Bool × C := stA s (fRun s k) c
def F3 (s : ByteArray) (k : Nat) (c : C) : Bool × C := stB s (fRun s k) c
/-- A way that begins with some steps ahead of 'one'. -/
theorem Ends.pre {s : ByteArray} {r : Fm × FSt} {c c1 : C} {F : Nat → C → Bool × C} {d : Nat} {p : Nat} (h : Ends s r c1 F d) (hq : r.2.q = .error p) (hk : ∀ k, Mz s 0 c ≤ k → ∃ k', Mz s 0 c1 ≤ k' ∧ fRun s k 0 c = fRun s k' 0 c1) {r' : Fm × FSt} {F' : Nat → C → Bool × C} {d' : Nat} (hq' : r'.2.q = .error p) : Ends s r' c F' d' := by
  unfold Ends at h ⊢
  rw [hq] at h
  rw [hq']
  intro k hk0
  obtain ⟨k', h1, h2⟩ := hk k hk0
  rw [h2]
  exact h k' h1
theorem is_num {s : ByteArray} {i c : Nat} (h : isC s (.ok i) c = true) : ∃ k, num? s i c 0 0 = some k := isC_some h
theorem not_num {s : ByteArray} {i c : Nat} (h : isC s (.ok i) c = false) : num? s i c 0 0 = none := isC_none h
theorem byte_is {s : ByteArray} {i c : Nat} (hc : c < 256) (h : isC s (.ok i) c = true) : ∃ hl : i < s.size, s[i] = UInt8.ofNat c := by
  obtain ⟨k, hk⟩ := is_num h
  obtain ⟨hl, he⟩ := num_is hk
  exact ⟨hl, u8_is hc he⟩
theorem byte_not {s : ByteArray} {i c : Nat} (h : isC s (.ok i) c = false) (hl : i < s.size) : s[i].toNat ≠ c := num_not (not_num h) hl
theorem one_is {s : ByteArray} {i c : Nat} {l : ByteArray} (hc : c < 256) (h : isC s (.ok i) c = true) (hin : inS l c = true) : oneOf? s i l.data.toList = some c := by
  obtain ⟨hl, e⟩ := byte_is hc h
  unfold oneOf?
  rw [dif_pos hl]
  have : s[i] ∈ l.data.toList := by rw [e]; simpa [inS] using hin
  rw [if_pos this, e]
  simp; omega
theorem num_else {s : ByteArray} {i c c' : Nat} (hc : c < 256) (h : isC s (.ok i) c = true) (hne : c ≠ c') : num? s i c' 0 0 = none := by
  obtain ⟨hl, e⟩ := byte_is hc h
  unfold num?
  rw [dif_pos hl, if_neg]
  rw [e]
  simp
  omega
theorem one_else {s : ByteArray} {i : Nat} {l : ByteArray} (h : ∀ u ∈ l.data.toList, isC s (.ok i) u.toNat = false) : oneOf? s i l.data.toList = none := by
  unfold oneOf?
  split
  · next hl =>
    rw [if_neg]
    intro hm
    exact byte_not (h _ hm) hl rfl
  · rfl
/-- A sign, and what is left behind it. -/
theorem step_push {s : ByteArray} {c : C} {o : Nat} (hle : c.t.at_ < s.size) (h : ∀ k, fRun s (k + 1) 0 c = fRun s k 3 (c.sign o)) : ∀ k, Mz s 0 c ≤ k → ∃ k', Mz s 0 (c.sign o).push ≤ k' ∧ fRun s k 0 c = fRun s k' 0 (c.sign o).push := by
  intro k hk
  unfold Mz at *
  obtain ⟨k', rfl⟩ : ∃ k', k = k' + 2 := ⟨k - 2, by simp at hk; omega⟩
  refine ⟨k', ?_, ?_⟩
  · show 2 * (s.size - (c.t.at_ + 1)) + 1 + 0 % 2 ≤ k'
    omega
  · rw [h (k' + 1)]; rfl
end Go.Proofs.YtgoebckimmofoaaGreatDoor
