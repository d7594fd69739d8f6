import Derived.Test.YtgoebckimmofoaaGreatDoorRows
import Derived.WalkKit
import Derived.WalkSpells
import Derived.WalkLawsBesides
import Derived.Deep.QuietTactic
import Derived.BigQuiet
import Derived.RegionTactic
import Derived.Lib.TrailingZeros
import Derived.Laws.Bits64b
import Derived.Deep.LoopGhost
import Derived.Deep.RegionLaw
import Derived.Deep.RegionHeld3
import Derived.Stop.RegionWithIn
import Derived.Shelf.RegionOpen
import Derived.Scope
import Derived.WalkMore
import Derived.Deep.AppendLies
import Derived.Laws.IdiomStrings
import Derived.Maps.AppendAt
import Derived.RangeFuncBox
import Derived.Deep.RegionHeld
import Derived.RangeFuncNested
import Derived.RangeFuncBound
import Derived.RangeFuncCalls
import Derived.RangeFuncLeaves
import Derived.Shelf.Abstract
import Derived.OwnWalkIn
import Derived.TacticsInMore
import Derived.LoopNIn
import Derived.LoopIn
import Derived.Test.YtgoebckimmofoaaGreatDoorM1
import Derived.Test.YtgoebckimmofoaaGreatDoorM4
import Derived.Test.YtgoebckimmofoaaGreatDoorM5
import Derived.Test.YtgoebckimmofoaaGreatDoorM6
import Derived.Test.YtgoebckimmofoaaGreatDoorM7
import Derived.Test.YtgoebckimmofoaaGreatDoorM8
import Derived.Test.YtgoebckimmofoaaGreatDoorM11
import Derived.Test.YtgoebckimmofoaaGreatDoorM17
import Derived.Test.YtgoebckimmofoaaGreatDoorM18
import Derived.Test.YtgoebckimmofoaaGreatDoorM19
import Derived.Test.YtgoebckimmofoaaGreatDoorM10
/- The document's nameless, walked; what formulas are read. Our own text. -/
namespace Go.Proofs.YtgoebckimmofoaaGreatDoor
open Go.RowKit Go.Lib
/-- Only the signs there are. -/
def Fm.Ok : Fm → Prop
  | ⟨o, c, 0, _⟩ => o = 84 ∨ (o = 99 ∧ PC c)
  | ⟨o, _, 1, k⟩ => (o = 33 ∨ o = 88 ∨ o = 70 ∨ o = 71) ∧ (k 0).Ok
  | ⟨o, _, 2, k⟩ => (o = 38 ∨ o = 124 ∨ o = 85 ∨ o = 82 ∨ o = 87) ∧ (k 0).Ok ∧ (k 1).Ok
  | ⟨_, _, _ + 3, _⟩ => False
theorem ok_tt : Fm.tt.Ok := .inl rfl
theorem ok_un {o : Nat} {a : Fm} (ho : o = 33 ∨ o = 88 ∨ o = 70 ∨ o = 71) (h : a.Ok) : (Fm.un o a).Ok := ⟨ho, h⟩
theorem ok_bin {o : Nat} {a b : Fm} (ho : o = 38 ∨ o = 124 ∨ o = 85 ∨ o = 82 ∨ o = 87) (h : a.Ok) (k : b.Ok) : (Fm.bin o a b).Ok := ⟨ho, h, k⟩
theorem pF_ok (s : ByteArray) : ∀ (n m : Nat) (x : FSt), (pF s n m x).1.Ok := by
  intro n
  induction n with
  | zero => intro m x; exact ok_tt
  | succ n ih =>
    intro m x
    match m with
    | 0 =>
      rw [pF0]
      split
      · exact ok_un (by omega) (ih _ _)
      · split
        · exact ok_un (by omega) (ih _ _)
        · split
          · exact ok_un (by omega) (ih _ _)
          · split
            · exact ok_un (by omega) (ih _ _)
            · split
              · exact ok_tt
              · split
                · exact ih _ _
                · split
                  · next e => exact .inr ⟨rfl, qCond_rng e⟩
                  · exact ok_tt
    | 1 =>
      rw [pF1]
      dsimp only
      split
      · exact ok_bin (by omega) (ih _ _) (ih _ _)
      · split
        · exact ok_bin (by omega) (ih _ _) (ih _ _)
        · split
          · exact ok_bin (by omega) (ih _ _) (ih _ _)
          · exact ih _ _
    | 2 =>
      rw [pF2]
      dsimp only
      split
      · exact ok_bin (by omega) (ih _ _) (ih _ _)
      · exact ih _ _
    | m + 3 =>
      rw [pF3]
      dsimp only
      split
      · exact ok_bin (by omega) (ih _ _) (ih _ _)
      · exact ih _ _
theorem qForm_ok (s : ByteArray) : (qForm s).1.Ok := pF_ok s _ _ _
/-- The first name that no variable has. -/
def nmF (nv : Nat) : Fm → Int
  | ⟨o, c, 0, _⟩ => if o = 99 then unnamed nv c.1 c.2 else -1
  | ⟨_, _, 1, k⟩ => nmF nv (k 0)
  | ⟨_, _, 2, k⟩ => if 0 ≤ nmF nv (k 0) then nmF nv (k 0) else nmF nv (k 1)
  | ⟨_, _, _ + 3, _⟩ => -1
theorem nmF_neg (nv : Nat) : ∀ t : Fm, t.Ok → ¬ (0 ≤ nmF nv t) → nmF nv t = -1
  | ⟨o, c, 0, _⟩, ho, h => by
    unfold nmF at h ⊢
    rcases ho with rfl | ⟨rfl, hc⟩
    · rfl
    · simp only [if_true] at h ⊢
      unfold unnamed at h ⊢
      obtain ⟨⟨_, _, h1⟩, _, _, h2⟩ := hc
      split at h
      · omega
      · split at h
        · omega
        · next h3 h4 => rw [if_neg h3, if_neg h4]
  | ⟨_, _, 1, k⟩, ho, h => nmF_neg nv (k 0) ho.2 h
  | ⟨_, _, 2, k⟩, ho, h => by
    unfold nmF at h ⊢
    split at h
    · omega
    · next h1 => rw [if_neg h1]; exact nmF_neg nv (k 1) ho.2.2 h
  | ⟨_, _, _ + 3, _⟩, ho, _ => False.elim ho
set_option maxRecDepth 100000 in
set_option maxHeartbeats 1600000 in
theorem nameless_any (nv : Nat) (s : ByteArray) (ao aor : Option Addr) (cap nr capr : Nat) (t : Fm) : ∀ (L : Nat) (vs : List Value) (w : World), t.Ok → NV L s w t vs →
    Calls Tryz.prog 41 #[.agg #[.slice ao nv cap, .slice aor nr capr], .agg vs.toArray] w fun e w' => e = .returned (.int .i64 (nmF nv t)) ∧ Below w.heap.size w w' := by
  induction t with
  | mk o c n k ih =>
    intro L vs w ho hv
    match n, k, ih, ho, hv with
    | 0, k, ih, ho, hv =>
      rcases ho with rfl | ⟨rfl, hc⟩
      · have e : vs = [.int .u8 84, .int .i64 0, .int .i64 0, .int .i64 0, .int .i64 0, .int .i64 0, .int .i64 0, .int .u8 0, .slice none 0 0] := hv
        have hR : Put (nmF nv ⟨84, c, 0, k⟩ = -1) := ⟨rfl⟩
        subst e
        clear ih hv
        go_enter Tryz.func41, Tryz.ntmps41
        go_wp2_with fail
        go_loopg [5] 0 (fun gk iv wr => iv = .int .i64 0 ∧ Below w.heap.size w wr ∧ wr.cell? ⟨w.heap.size + 1, 8, none⟩ = some (.slice none 0 0))
        case atStart => exact ⟨rfl, ((Below.refl _ _).alloc (Nat.le_refl _) _).alloc (by simp) _, by
          have := heap_alloc_new (w.alloc (.cells #[.slice ao nv cap, .slice aor nr capr] 65)) (.cells #[.int .u8 84, .int .i64 0, .int .i64 0, .int .i64 0, .int .i64 0, .int .i64 0, .int .i64 0, .int .u8 0, .slice none 0 0] 90)
          rw [World.size_alloc] at this
          exact (blk9 this).1.2.2.2.2.2.2.2.2⟩
        case round =>
          obtain ⟨rfl, hbr, hc8⟩ := hrel
          have HBr : Put (_) := ⟨hbr⟩
          clear hbr
          go_wp2
          go_ret
          exact ⟨by rw [hR.out]; rfl, HBr.out⟩
      · have e : vs = .int .u8 99 :: c7 s c ++ [.slice none 0 0] := hv
        unfold c7 at e
        subst e
        clear ih hv
        have hR : Put (nmF nv ⟨99, c, 0, k⟩ = unnamed nv c.1 c.2) := ⟨rfl⟩
        go_enter Tryz.func41, Tryz.ntmps41
        go_wp2_with fail
        refine (unnamed_any nv c.1 c.2 ao aor cap nr capr).mono ?_
        rintro e w1 ⟨rfl, hb1⟩
        have HB : Put (_) := ⟨hb1⟩
        clear hb1
        go_wp2
        go_ret
        exact ⟨by rw [hR.out]; rfl, (((Below.refl _ _).alloc (Nat.le_refl _) _).alloc (by simp) _).trans (HB.out.mono (by simp; omega))⟩
    | 1, k, ih, ho, hv =>
      obtain ⟨hop, hok⟩ := ho
      obtain ⟨b, cp, us, e, hLb, hblk, hNV⟩ := hv
      subst e
      obtain ⟨y0, y1, y2, y3, y4, y5, y6, y7, y8, rfl⟩ := len9 hNV.len
      have ho9 : ¬ (o = 99) := by omega
      have ho9' : ¬ ((o : Int) = 99) := by omega
      have hbl := lt_of_block hblk
      have HC : Put (∀ wr, Below w.heap.size w wr → Calls Tryz.prog 41 #[.agg #[.slice ao nv cap, .slice aor nr capr], .agg #[y0, y1, y2, y3, y4, y5, y6, y7, y8]] wr fun e w' => e = .returned (.int .i64 (nmF nv (k 0))) ∧ Below wr.heap.size wr w') := ⟨fun wr hb => ih 0 L _ wr hok (hNV.keep (Nat.le_refl _) (fun k _ h2 => hb.block k h2))⟩
      have hR : Put (nmF nv ⟨o, c, 1, k⟩ = nmF nv (k 0)) := ⟨rfl⟩
      have HN : Put (¬ (0 ≤ nmF nv (k 0)) → nmF nv (k 0) = -1) := ⟨nmF_neg nv _ hok⟩
      have HBlk : Put (_) := ⟨hblk⟩
      generalize hX : nmF nv (k 0) = X at *
      clear ih hNV hop hok hblk hX
      unfold z7
      go_enter Tryz.func41, Tryz.ntmps41
      go_wp2_with fail
      generalize hW : (w.alloc (.cells #[.slice ao nv cap, .slice aor nr capr] 65)).alloc (.cells #[.int .u8 o, .int .i64 0, .int .i64 0, .int .i64 0, .int .i64 0, .int .i64 0, .int .i64 0, .int .u8 0, .slice (some ⟨b, 0, none⟩) 1 cp] 90) = W at *
      have HW1 : Put (Below w.heap.size w W) := ⟨by rw [← hW]; exact ((Below.refl _ _).alloc (Nat.le_refl _) _).alloc (by simp) _⟩
      have HW2 : Put (W.heap.size = w.heap.size + 2) := ⟨by rw [← hW]; simp⟩
      have HM0 : Put (W.heap[w.heap.size]? = some (.cells #[.slice ao nv cap, .slice aor nr capr] 65 (0, 0))) := ⟨by rw [← hW, Below.heap_alloc _ _ _ (by simp), heap_alloc_new]⟩
      have HM1 : Put (W.heap[w.heap.size + 1]? = some (.cells #[.int .u8 o, .int .i64 0, .int .i64 0, .int .i64 0, .int .i64 0, .int .i64 0, .int .i64 0, .int .u8 0, .slice (some ⟨b, 0, none⟩) 1 cp] 90 (0, 0))) := ⟨by
        rw [← hW]
        have := heap_alloc_new (w.alloc (.cells #[.slice ao nv cap, .slice aor nr capr] 65)) (.cells #[.int .u8 o, .int .i64 0, .int .i64 0, .int .i64 0, .int .i64 0, .int .i64 0, .int .i64 0, .int .u8 0, .slice (some ⟨b, 0, none⟩) 1 cp] 90)
        simpa using this⟩
      clear hW
      go_loopg [5] 1 (fun gk iv wr => ∃ i : Nat, iv = .int .i64 i ∧ i + gk = 1 ∧ Put (Below W.heap.size W wr) ∧ Put (1 ≤ i → X = -1))
      case atStart => exact ⟨0, rfl, rfl, ⟨Below.refl _ _⟩, ⟨fun h => absurd h (by omega)⟩⟩
      case round =>
        obtain ⟨i, rfl, hik, HBr, HPi⟩ := hrel
        have hm0 := (HBr.out.block _ (lt_of_block HM0.out)).trans HM0.out
        have hm1 := (HBr.out.block _ (lt_of_block HM1.out)).trans HM1.out
        have q0 : wr.cell? ⟨w.heap.size, 0, none⟩ = some (.slice ao nv cap) := by simp [World.cell?, hm0]
        have q1 : wr.cell? ⟨w.heap.size, 1, none⟩ = some (.slice aor nr capr) := by simp [World.cell?, hm0]
        have q8 : wr.cell? ⟨w.heap.size + 1, 8, none⟩ = some (.slice (some ⟨b, 0, none⟩) 1 cp) := by simp [World.cell?, hm1]
        clear hm0 hm1
        obtain rfl | rfl : i = 0 ∨ i = 1 := by omega
        · have hbk := ((HW1.out.trans (HBr.out.mono HW1.out.size)).block b hbl).trans HBlk.out
          obtain ⟨⟨n0, n1, n2, n3, n4, n5, n6, n7, n8⟩, nf⟩ := blk9 hbk
          clear hbk nf
          have HCr : Put (_) := ⟨HC.out wr.drew (HW1.out.trans (HBr.out.mono HW1.out.size)).drew⟩
          go_wp2_with fail
          go_region_law ((go_simp; go_at_call 41; refine HCr.out.mono ?_; rintro e w3 ⟨rfl, hb3⟩))
          all_goals
            have HB3 : Put (Below W.heap.size W w3) := ⟨HBr.out.drew.trans (hb3.mono HBr.out.size)⟩
            clear hb3 HCr HBr
            by_cases hX0 : 0 ≤ X
            · go_wp2
              go_ret
              exact ⟨by rw [hR.out]; rfl, HW1.out.trans (HB3.out.mono HW1.out.size)⟩
            · have HX : Put (X = -1) := ⟨HN.out (by omega)⟩
              go_wp2
              go_roundg (gk - 1)
              case measure => omega
              case rel => exact ⟨1, by go_num, by omega, HB3, ⟨fun _ => HX.out⟩⟩
        · have HX : Put (X = -1) := ⟨HPi.out (by omega)⟩
          clear HPi
          go_wp2
          go_ret
          exact ⟨by rw [hR.out, HX.out]; rfl, HW1.out.trans (HBr.out.mono HW1.out.size)⟩
    | 2, k, ih, ho, hv =>
      obtain ⟨hop, hok, hok1⟩ := ho
      obtain ⟨b, cp, us, ts, e, hLb, hblk, hNV, hNV1⟩ := hv
      subst e
      obtain ⟨y0, y1, y2, y3, y4, y5, y6, y7, y8, rfl⟩ := len9 hNV.len
      obtain ⟨t0, t1, t2, t3, t4, t5, t6, t7, t8, rfl⟩ := len9 hNV1.len
      replace hblk : w.heap[b]? = some (.cells #[y0, y1, y2, y3, y4, y5, y6, y7, y8, t0, t1, t2, t3, t4, t5, t6, t7, t8] 90 (0, 0)) := hblk
      have ho9 : ¬ (o = 99) := by omega
      have ho9' : ¬ ((o : Int) = 99) := by omega
      have hbl := lt_of_block hblk
      have HC : Put (∀ wr, Below w.heap.size w wr → Calls Tryz.prog 41 #[.agg #[.slice ao nv cap, .slice aor nr capr], .agg #[y0, y1, y2, y3, y4, y5, y6, y7, y8]] wr fun e w' => e = .returned (.int .i64 (nmF nv (k 0))) ∧ Below wr.heap.size wr w') := ⟨fun wr hb => ih 0 L _ wr hok (hNV.keep (Nat.le_refl _) (fun k _ h2 => hb.block k h2))⟩
      have HC1 : Put (∀ wr, Below w.heap.size w wr → Calls Tryz.prog 41 #[.agg #[.slice ao nv cap, .slice aor nr capr], .agg #[t0, t1, t2, t3, t4, t5, t6, t7, t8]] wr fun e w' => e = .returned (.int .i64 (nmF nv (k 1))) ∧ Below wr.heap.size wr w') := ⟨fun wr hb => ih 1 L _ wr hok1 (hNV1.keep (Nat.le_refl _) (fun k _ h2 => hb.block k h2))⟩
      have hR : Put (nmF nv ⟨o, c, 2, k⟩ = if 0 ≤ nmF nv (k 0) then nmF nv (k 0) else nmF nv (k 1)) := ⟨rfl⟩
      have HN : Put (¬ (0 ≤ nmF nv (k 1)) → nmF nv (k 1) = -1) := ⟨nmF_neg nv _ hok1⟩
      have HBlk : Put (_) := ⟨hblk⟩
      generalize hX : nmF nv (k 0) = X at *
      generalize hY : nmF nv (k 1) = Y at *
      clear ih hNV hNV1 hop hok hok1 hblk hX hY
      unfold z7
      go_enter Tryz.func41, Tryz.ntmps41
      go_wp2_with fail
      generalize hW : (w.alloc (.cells #[.slice ao nv cap, .slice aor nr capr] 65)).alloc (.cells #[.int .u8 o, .int .i64 0, .int .i64 0, .int .i64 0, .int .i64 0, .int .i64 0, .int .i64 0, .int .u8 0, .slice (some ⟨b, 0, none⟩) 2 cp] 90) = W at *
      have HW1 : Put (Below w.heap.size w W) := ⟨by rw [← hW]; exact ((Below.refl _ _).alloc (Nat.le_refl _) _).alloc (by simp) _⟩
      have HW2 : Put (W.heap.size = w.heap.size + 2) := ⟨by rw [← hW]; simp⟩
      have HM0 : Put (W.heap[w.heap.size]? = some (.cells #[.slice ao nv cap, .slice aor nr capr] 65 (0, 0))) := ⟨by rw [← hW, Below.heap_alloc _ _ _ (by simp), heap_alloc_new]⟩
      have HM1 : Put (W.heap[w.heap.size + 1]? = some (.cells #[.int .u8 o, .int .i64 0, .int .i64 0, .int .i64 0, .int .i64 0, .int .i64 0, .int .i64 0, .int .u8 0, .slice (some ⟨b, 0, none⟩) 2 cp] 90 (0, 0))) := ⟨by
        rw [← hW]
        have := heap_alloc_new (w.alloc (.cells #[.slice ao nv cap, .slice aor nr capr] 65)) (.cells #[.int .u8 o, .int .i64 0, .int .i64 0, .int .i64 0, .int .i64 0, .int .i64 0, .int .i64 0, .int .u8 0, .slice (some ⟨b, 0, none⟩) 2 cp] 90)
        simpa using this⟩
      clear hW
      go_loopg [5] 2 (fun gk iv wr => ∃ i : Nat, iv = .int .i64 i ∧ i + gk = 2 ∧ Put (Below W.heap.size W wr) ∧ Put ((1 ≤ i → ¬ (0 ≤ X)) ∧ (2 ≤ i → Y = -1)))
      case atStart => exact ⟨0, rfl, rfl, ⟨Below.refl _ _⟩, ⟨fun h => absurd h (by omega), fun h => absurd h (by omega)⟩⟩
      case round =>
        obtain ⟨i, rfl, hik, HBr, HPi⟩ := hrel
        have hm0 := (HBr.out.block _ (lt_of_block HM0.out)).trans HM0.out
        have hm1 := (HBr.out.block _ (lt_of_block HM1.out)).trans HM1.out
        have q0 : wr.cell? ⟨w.heap.size, 0, none⟩ = some (.slice ao nv cap) := by simp [World.cell?, hm0]
        have q1 : wr.cell? ⟨w.heap.size, 1, none⟩ = some (.slice aor nr capr) := by simp [World.cell?, hm0]
        have q8 : wr.cell? ⟨w.heap.size + 1, 8, none⟩ = some (.slice (some ⟨b, 0, none⟩) 2 cp) := by simp [World.cell?, hm1]
        clear hm0 hm1
        obtain rfl | rfl | rfl : i = 0 ∨ i = 1 ∨ i = 2 := by omega
        · have hbk := ((HW1.out.trans (HBr.out.mono HW1.out.size)).block b hbl).trans HBlk.out
          have n0 : wr.cell? ⟨b, 0, none⟩ = some y0 := by simp [World.cell?, hbk]
          have n1 : wr.cell? ⟨b, 1, none⟩ = some y1 := by simp [World.cell?, hbk]
          have n2 : wr.cell? ⟨b, 2, none⟩ = some y2 := by simp [World.cell?, hbk]
          have n3 : wr.cell? ⟨b, 3, none⟩ = some y3 := by simp [World.cell?, hbk]
          have n4 : wr.cell? ⟨b, 4, none⟩ = some y4 := by simp [World.cell?, hbk]
          have n5 : wr.cell? ⟨b, 5, none⟩ = some y5 := by simp [World.cell?, hbk]
          have n6 : wr.cell? ⟨b, 6, none⟩ = some y6 := by simp [World.cell?, hbk]
          have n7 : wr.cell? ⟨b, 7, none⟩ = some y7 := by simp [World.cell?, hbk]
          have n8 : wr.cell? ⟨b, 8, none⟩ = some y8 := by simp [World.cell?, hbk]
          clear hbk HPi
          have HCr : Put (_) := ⟨HC.out wr.drew (HW1.out.trans (HBr.out.mono HW1.out.size)).drew⟩
          go_wp2_with fail
          go_region_law ((go_simp; go_at_call 41; refine HCr.out.mono ?_; rintro e w3 ⟨rfl, hb3⟩))
          all_goals
            have HB3 : Put (Below W.heap.size W w3) := ⟨HBr.out.drew.trans (hb3.mono HBr.out.size)⟩
            clear hb3 HCr HBr
            by_cases hX0 : 0 ≤ X
            · go_wp2
              go_ret
              exact ⟨by rw [hR.out, if_pos hX0]; rfl, HW1.out.trans (HB3.out.mono HW1.out.size)⟩
            · have HX : Put (¬ (0 ≤ X)) := ⟨hX0⟩
              go_wp2
              go_roundg (gk - 1)
              case measure => omega
              case rel => exact ⟨1, by go_num, by omega, HB3, ⟨fun _ => HX.out, fun h => absurd h (by omega)⟩⟩
        · have hbk := ((HW1.out.trans (HBr.out.mono HW1.out.size)).block b hbl).trans HBlk.out
          have n0 : wr.cell? ⟨b, 9, none⟩ = some t0 := by simp [World.cell?, hbk]
          have n1 : wr.cell? ⟨b, 10, none⟩ = some t1 := by simp [World.cell?, hbk]
          have n2 : wr.cell? ⟨b, 11, none⟩ = some t2 := by simp [World.cell?, hbk]
          have n3 : wr.cell? ⟨b, 12, none⟩ = some t3 := by simp [World.cell?, hbk]
          have n4 : wr.cell? ⟨b, 13, none⟩ = some t4 := by simp [World.cell?, hbk]
          have n5 : wr.cell? ⟨b, 14, none⟩ = some t5 := by simp [World.cell?, hbk]
          have n6 : wr.cell? ⟨b, 15, none⟩ = some t6 := by simp [World.cell?, hbk]
          have n7 : wr.cell? ⟨b, 16, none⟩ = some t7 := by simp [World.cell?, hbk]
          have n8 : wr.cell? ⟨b, 17, none⟩ = some t8 := by simp [World.cell?, hbk]
          have HX0 : Put (¬ (0 ≤ X)) := ⟨HPi.out.1 (by omega)⟩
          clear hbk HPi
          have HCr : Put (_) := ⟨HC1.out wr.drew (HW1.out.trans (HBr.out.mono HW1.out.size)).drew⟩
          go_wp2_with fail
          go_region_law ((go_simp; go_at_call 41; refine HCr.out.mono ?_; rintro e w3 ⟨rfl, hb3⟩))
          all_goals
            have HB3 : Put (Below W.heap.size W w3) := ⟨HBr.out.drew.trans (hb3.mono HBr.out.size)⟩
            clear hb3 HCr HBr
            by_cases hX0 : 0 ≤ Y
            · go_wp2
              go_ret
              exact ⟨by rw [hR.out, if_neg (show ¬ (0 ≤ X) by have := HX0.out; omega)]; rfl, HW1.out.trans (HB3.out.mono HW1.out.size)⟩
            · have HX : Put (Y = -1) := ⟨HN.out (by omega)⟩
              go_wp2
              go_roundg (gk - 1)
              case measure => omega
              case rel => exact ⟨2, by go_num, by omega, HB3, ⟨fun _ => HX0.out, fun _ => HX.out⟩⟩
        · have HX : Put (nmF nv ⟨o, c, 2, k⟩ = -1) := ⟨by rw [hR.out, if_neg (HPi.out.1 (by omega)), HPi.out.2 (by omega)]⟩
          clear HPi
          go_wp2
          go_ret
          exact ⟨by rw [HX.out]; rfl, HW1.out.trans (HBr.out.mono HW1.out.size)⟩
    | n + 3, k, ih, ho, hv => exact False.elim ho
end Go.Proofs.YtgoebckimmofoaaGreatDoor

/- The document's Formula, walked. Our own text. -/
namespace Go.Proofs.YtgoebckimmofoaaGreatDoor
open Go.RowKit Go.Lib
/-- How many variables a good model has. -/
def nvM (m : ByteArray) : Nat := match qRead m with
  | (some (va, _), _) => va.length
  | _ => 0
/-- What Formula answers where the model is good and the formula not too long. -/
def fErr (m : ByteArray) (r : Fm × FSt) : Nat × Int := match r.2.q with
  | .error p => (2, (p : Int))
  | .ok _ => if 0 ≤ r.2.deep then (6, r.2.deep) else if 0 ≤ nmF (nvM m) r.1 then (3, nmF (nvM m) r.1) else if 4 < r.2.wgt then (7, 0) else (0, 0)
def rForm (m f : ByteArray) : Nat × Int := if (rCheck m).1 ≠ 0 then rCheck m else if 60 < f.size then (1, 0) else fErr m (qForm f)
set_option maxRecDepth 100000 in
set_option maxHeartbeats 1600000 in
theorem rform_any (m f : ByteArray) (w : World) (hm : m.size ≤ maxLen) : Calls Tryz.prog 21 #[.string m, .string f] w fun e w' => e = .returned (.tuple #[.int .i64 ((rForm m f).1 : Nat), .int .i64 (rForm m f).2]) ∧ Below w.heap.size w w' := by
  have HC : Put (_) := ⟨rcheck_any m w hm⟩
  by_cases h0 : (rCheck m).1 = 0
  · obtain ⟨hle, va, ra, q', hq, hw⟩ := rCheck_ok h0
    have hp0 : (rCheck m).2 = 0 := by
      unfold rCheck
      rw [if_neg (by omega), hq]
      obtain ⟨e1, e2⟩ := wrong_none hw
      show (wrongP va ra).2 = 0
      unfold wrongP
      rw [e1, e2]; rfl
    rw [h0, hp0] at HC
    have hnv : nvM m = va.length := by unfold nvM; rw [hq]
    by_cases hl : 60 < f.size
    · have hR : Put (rForm m f = (1, 0)) := ⟨by unfold rForm; rw [if_neg (by omega), if_pos hl]⟩
      have hl' : (60 : Int) < (f.size : Int) := by omega
      rw [hR.out]
      clear hq hw hnv hR
      go_enter Tryz.func21, Tryz.ntmps21
      go_wp2_with fail
      refine HC.out.mono ?_
      rintro e w1 ⟨rfl, hb1⟩
      have HB1 : Put (_) := ⟨hb1⟩
      clear hb1 HC
      go_wp2
      go_ret2
      exact ⟨rfl, HB1.out⟩
    · have hl' : ¬ ((60 : Int) < (f.size : Int)) := by omega
      have hR : rForm m f = fErr m (qForm f) := by unfold rForm; rw [if_neg (by omega), if_neg hl]
      have HQ : Put (qRead m = (some (va, ra), q')) := ⟨hq⟩
      have HOk := qForm_ok f
      rw [hR]
      clear hR hq hw
      have HF : Put (∀ w, Calls Tryz.prog 40 #[.string f] w (FormPost f w)) := ⟨fun w => form_any (by omega)⟩
      unfold FormPost at HF
      generalize hr : qForm f = r at *
      have HO : Put (r.1.Ok) := ⟨HOk⟩
      clear hr HOk
      obtain ⟨R, hR⟩ : ∃ R, R = fErr m r := ⟨_, rfl⟩
      rw [← hR]
      have HR : Put (_) := ⟨hR⟩
      unfold fErr at HR
      rw [hnv] at HR
      clear hR hnv
      go_enter Tryz.func21, Tryz.ntmps21
      go_wp2_with fail
      refine HC.out.mono ?_
      rintro e w1 ⟨rfl, hb1⟩
      have HB1 : Put (_) := ⟨hb1⟩
      clear hb1 HC
      go_wp2_with fail
      refine (HF.out _).mono ?_
      rintro e w2 ⟨B, P, hB, hP, hfb, hb2, o, a0, a1, a2, b0, b1, b2, g, p, l, c, rfl, hnv2⟩
      have HNV : Put (_) := ⟨hnv2⟩
      have hf3 := hfb.alloc (.cells #[.int .u8 o, .int .i64 a0, .int .i64 a1, .int .i64 a2, .int .i64 b0, .int .i64 b1, .int .i64 b2, .int .u8 g, .slice p l c] 90)
      have c0 := hf3.c0
      have c1 := hf3.c1
      have c3 := hf3.c3
      have lP := hfb.lt
      have lB := hfb.r.lt
      have hB12 := HB1.out.trans (hb2.mono HB1.out.size)
      have hB3 := hB12.alloc hB12.size (.cells #[.int .u8 o, .int .i64 a0, .int .i64 a1, .int .i64 a2, .int .i64 b0, .int .i64 b1, .int .i64 b2, .int .u8 g, .slice p l c] 90)
      have HB3 : Put (_) := ⟨hB3⟩
      have HF3 : Put (_) := ⟨hf3⟩
      have HFB : Put (_) := ⟨hfb⟩
      have HS : Put (w.heap.size ≤ w1.heap.size ∧ w1.heap.size ≤ w2.heap.size) := ⟨HB1.out.size, hb2.size⟩
      clear hB12 hB3 hnv2 hb2 HF
      cases hq : r.2.q with
      | error p' =>
        obtain ⟨i, hile, hrc⟩ : ∃ i, i ≤ f.size ∧ RC B f i p' _ := by have := hf3.r; rw [hq] at this; exact this
        have rc2 := hrc.c2
        have h0 : ¬ ((p' : Int) < 0) := by omega
        have h0' : (0 : Int) ≤ (p' : Int) := by omega
        have hRR : R = (2, (p' : Int)) := by rw [HR.out, hq]
        subst hRR
        clear hrc hf3 hfb HR
        go_wp2_with fail
        go_region
        all_goals
          go_wp2
          go_ret2
          exact ⟨rfl, HB3.out.drew⟩
      | ok i =>
        obtain ⟨hile, hrc⟩ : i ≤ f.size ∧ RC B f i (-1) _ := by have := hf3.r; rw [hq] at this; exact this
        have rc2 := hrc.c2
        rw [hq] at HR
        by_cases hd : 0 ≤ r.2.deep
        · have hRR : R = (6, r.2.deep) := by rw [HR.out]; exact if_pos hd
          subst hRR
          clear hrc hf3 hfb HR
          go_wp2_with fail
          go_region
          all_goals
            go_wp2
            go_ret2
            exact ⟨rfl, HB3.out.drew⟩
        · have HR2 : Put (R = if 0 ≤ nmF va.length r.1 then (3, nmF va.length r.1) else if 4 < r.2.wgt then (7, 0) else (0, 0)) := ⟨by rw [HR.out]; exact if_neg hd⟩
          clear hrc hf3 hfb HR
          go_wp2_with fail
          refine (rread_any hle HQ.out).mono ?_
          rintro e w4 ⟨⟨ao, aor, cap, capr, vs, rs, bad, rfl, _, _, _, _, h3, h8, hfin⟩, hb4⟩
          have hvl : va.length = vs.length := by
            rcases hfin with ⟨p, h1, _⟩ | ⟨h1, _⟩
            · cases h1
            · obtain ⟨rfl, rfl⟩ : va = vs.map V3.ast ∧ ra = rs.map R2.ast := by simpa using h1
              simp
          rw [hvl] at HR2
          clear hfin hvl
          have hA4 := (hb4.block _ (by simp)).trans (heap_alloc_new w2 (.cells #[.int .u8 o, .int .i64 a0, .int .i64 a1, .int .i64 a2, .int .i64 b0, .int .i64 b1, .int .i64 b2, .int .u8 g, .slice p l c] 90))
          obtain ⟨⟨n0, n1, n2, n3, n4, n5, n6, n7, n8⟩, nf⟩ := blk9 hA4
          have l2 := lt_of_block hA4
          have HB4 : Put (_) := ⟨hb4⟩
          have c3' : w4.cell? ⟨P, 3, none⟩ = some (.int .i64 r.2.wgt) := by
            rw [hb4.cell (p := ⟨P, 3, none⟩) (by show P < _; simp; omega)]; exact c3
          have HB5 : Put (Below w4.heap.size w4 _) := ⟨(Below.refl _ _).alloc (Nat.le_refl _) (.cells #[.slice ao vs.length cap, .slice aor rs.length capr] 65)⟩
          have HN : Put (_) := ⟨nameless_any vs.length f ao aor cap rs.length capr r.1 w1.heap.size [.int .u8 o, .int .i64 a0, .int .i64 a1, .int .i64 a2, .int .i64 b0, .int .i64 b1, .int .i64 b2, .int .u8 g, .slice p l c] (w4.alloc (.cells #[.slice ao vs.length cap, .slice aor rs.length capr] 65)) HO.out ((HNV.out i hq).keep (Nat.le_refl _) (fun k _ h2 => by
            rw [Below.heap_alloc _ _ _ (by have := hb4.size; simp at this; omega), hb4.block k (by simp; omega), Below.heap_alloc _ _ _ h2]))⟩
          clear hA4 hb4 nf c0 c1 c3 rc2
          generalize hX : nmF vs.length r.1 = X at *
          clear hX
          go_wp2_with fail
          refine HN.out.mono ?_
          rintro e w6 ⟨rfl, hb6⟩
          have hB : Below w.heap.size w w6 := (HB3.out.trans (HB4.out.mono HB3.out.size)).trans ((HB5.out.mono (Nat.le_trans HB3.out.size HB4.out.size)).trans (hb6.mono (Nat.le_trans (Nat.le_trans HB3.out.size HB4.out.size) HB5.out.size)))
          have HB : Put (_) := ⟨hB⟩
          have d3 : w6.cell? ⟨P, 3, none⟩ = some (.int .i64 r.2.wgt) := by
            rw [hb6.cell (p := ⟨P, 3, none⟩) (by show P < _; have := HB4.out.size; simp at this ⊢; omega), HB5.out.cell (p := ⟨P, 3, none⟩) (by show P < _; have := HB4.out.size; simp at this; omega)]; exact c3'
          clear hB hb6 c3' n0 n1 n2 n3 n4 n5 n6 n7 n8 HN HB3 HB4 HB5 HNV HFB HF3
          by_cases hX0 : 0 ≤ X
          · have hRR : R = (3, X) := by rw [HR2.out, if_pos hX0]
            subst hRR
            clear HR2
            go_wp2
            go_ret2
            exact ⟨rfl, HB.out⟩
          · by_cases hw4 : 4 < r.2.wgt
            · have hRR : R = (7, 0) := by rw [HR2.out, if_neg hX0, if_pos hw4]
              subst hRR
              have hw4' : (4 : Int) < (r.2.wgt : Int) := by omega
              clear HR2
              go_wp2
              go_ret2
              exact ⟨rfl, HB.out⟩
            · have hRR : R = (0, 0) := by rw [HR2.out, if_neg hX0, if_neg hw4]
              subst hRR
              have hw4' : ¬ ((4 : Int) < (r.2.wgt : Int)) := by omega
              clear HR2
              go_wp2
              go_ret2
              exact ⟨rfl, HB.out⟩
  · have hR : Put (rForm m f = rCheck m) := ⟨by unfold rForm; rw [if_pos h0]⟩
    rw [hR.out]
    have hne : (((rCheck m).1 : Int) == 0) = false := by simp; exact h0
    have hne' : ¬ ((rCheck m).1 : Int) = 0 := by omega
    clear hR
    generalize (rCheck m).1 = a at *
    generalize (rCheck m).2 = b at *
    go_enter Tryz.func21, Tryz.ntmps21
    go_wp2_with fail
    refine HC.out.mono ?_
    rintro e w1 ⟨rfl, hb1⟩
    have HB1 : Put (_) := ⟨hb1⟩
    clear hb1 HC
    go_wp2
    go_ret2
    exact ⟨rfl, HB1.out⟩
end Go.Proofs.YtgoebckimmofoaaGreatDoor

/- The document's next, ever, meet, until, walked. Our own text. -/
namespace Go.Proofs.YtgoebckimmofoaaGreatDoor
open Go.RowKit Go.Lib
def bls (l : List Bool) : List Value := l.map Value.bool
theorem bls_at {w : World} {base : Nat} {v : Value} {l : List Bool} (h : w.ownsRow base 4 1 v l.length (bls l)) (hl : 0 < l.length) : ∃ g cap, v = .slice (some ⟨g, 0, none⟩) l.length cap ∧ base ≤ g ∧ g < w.heap.size ∧ l.length ≤ cap ∧ ∀ k (hk : k < l.length), w.cell? ⟨g, k, none⟩ = some (.bool l[k]) := by
  have e : bls l = l.flatMap (fun d => [Value.bool d]) := by
    unfold bls; rw [List.map_eq_flatMap]
  rw [e] at h
  obtain ⟨ao, cap, rfl⟩ := owned_slice' h
  obtain ⟨g, rfl, h2, h3, h4, h5⟩ := row_at (z := 1) (fun _ => rfl) h hl
  exact ⟨g, cap, rfl, h2, h3, h4, fun k hk => by have := h5 k hk 0 (by omega); simpa using this⟩
theorem made_bls (n : Nat) : (madeCells #[Value.bool false] n).toList = bls (List.replicate n false) := by
  apply List.ext_getElem
  · simp [madeCells, bls]
  · intro i h1 h2
    simp [madeCells, bls, Nat.mod_one]
theorem bls_set (l : List Bool) (i : Nat) (x : Bool) : (bls l).set i (.bool x) = bls (l.set i x) := by simp [bls, List.map_set]
theorem fill_bool (xs : List Bool) (k : Nat) (x : Bool) : (xs ++ List.replicate (k + 1) false).set xs.length x = (xs ++ [x]) ++ List.replicate k false := by
  simp [List.replicate_succ]
theorem infoB : (Tryz.prog.info? 4).map (fun i => (i.zero, i.size, i.bytes)) = some (some (.bool false), 1, 1) := by kernel_rfl
/-- The next place of a list that is being filled. -/
theorem fill_at {w : World} {base g n : Nat} {xs : List Bool} {k i : Nat} (h : w.ownsRow base 4 1 (.slice (some ⟨g, 0, none⟩) n n) n (bls (xs ++ List.replicate (k + 1) false))) (hx : xs.length = i) (hn : i + (k + 1) = n) (x : Bool) :
    base ≤ g ∧ g < w.heap.size ∧ w.cell? ⟨g, i, none⟩ = some (.bool false) ∧ w.frozen? ⟨g, i, none⟩ = false ∧ (w.setCell ⟨g, i, none⟩ (.bool x)).ownsRow base 4 1 (.slice (some ⟨g, 0, none⟩) n n) n (bls ((xs ++ [x]) ++ List.replicate k false)) := by
  have hl : (xs ++ List.replicate (k + 1) false).length = n := by simp; omega
  have h0 := h
  rw [← hl] at h0
  obtain ⟨g2, cap, e, h1, h2, h3, h4⟩ := bls_at h0 (by omega)
  obtain ⟨rfl, _⟩ : g = g2 ∧ _ := by simpa using e
  rcases h.2 with ⟨hn, _⟩ | ⟨gO, capO, cur, eO, hgO, hgO', hcO, r⟩
  · cases hn
  obtain ⟨rfl, rfl⟩ : g = gO ∧ n = capO := by simpa using eO
  refine ⟨h1, h2, ?_, by simp [World.frozen?, hgO'], ?_⟩
  · rw [h4 i (by omega)]
    subst hx
    simp
  · have := (h.stored i (.bool x)).1
    rw [bls_set] at this
    have e := fill_bool xs k x
    rw [hx] at e
    rw [e] at this
    exact this
section
variable {w : World}
set_option maxRecDepth 100000 in
set_option maxHeartbeats 800000 in
theorem dnext_any (i n loop : Nat) (ao : Option Addr) (cap : Nat) (hi : i < n) (hn : n ≤ 7000) :
    Calls Tryz.prog 72 #[.int .i64 i, .agg #[.slice ao n cap, .int .i64 loop]] w fun e w' => e = .returned (.int .i64 (nxt n loop i : Nat)) ∧ Below w.heap.size w w' := by
  unfold nxt
  by_cases h : i + 1 < n
  · rw [if_pos h]
    have h' : (i : Int) + 1 < (n : Int) := by omega
    go_enter Tryz.func72, Tryz.ntmps72
    go_wp2
    go_ret
    exact ⟨by rfl, (Below.refl _ _).alloc (Nat.le_refl _) _⟩
  · rw [if_neg h]
    have h' : ¬ ((i : Int) + 1 < (n : Int)) := by omega
    go_enter Tryz.func72, Tryz.ntmps72
    go_wp2
    go_ret
    exact ⟨by rfl, (Below.refl _ _).alloc (Nat.le_refl _) _⟩
set_option maxRecDepth 100000 in
set_option maxHeartbeats 800000 in
theorem ever_any (n : Nat) (hn : n ≤ 7000) :
    Calls Tryz.prog 70 #[.int .i64 n] w fun e w' => (∃ v, e = .returned v ∧ w'.ownsRow w.heap.size 4 1 v (List.replicate n true).length (bls (List.replicate n true))) ∧ Below w.heap.size w w' := by
  obtain ⟨j0, hi, hz0, hz1, hz2⟩ := info_parts infoB
  go_enter Tryz.func70, Tryz.ntmps70
  go_wp2_with (at_make; refine wpList_make_full _ rfl _ _ 105 rfl w.heap.size 4 j0 _ 1 Tryz.underlying105 hi hz0 hz1 .i64 .i64 _ _ n rfl rfl rfl rfl (by rw [hz2]; omega) (by unfold maxLen; omega) (by simp) ?_)
  intro w2 hown hgr
  rw [made_bls] at hown
  have hB2 : Below w.heap.size w w2 := (Below.refl _ _).grown hgr (by simp) (fun k h => by cases h)
  have HO : Put (_) := ⟨hown⟩
  have HB2 : Put (_) := ⟨hB2⟩
  clear hown hgr hB2
  go_wp2_with fail
  go_loopg [4] n (fun gk iv wr => ∃ i : Nat, iv = .int .i64 i ∧ i + gk = n ∧ Put (Below w.heap.size w wr) ∧ Put (wr.ownsRow w.heap.size 4 1 (.slice (some ⟨w.heap.size, 0, none⟩) n n) n (bls (List.replicate i true ++ List.replicate gk false))))
  case atStart => exact ⟨0, rfl, by omega, HB2, HO⟩
  case round =>
    clear HB2 HO
    obtain ⟨i, rfl, hik, HBr, HO⟩ := hrel
    by_cases hlt : i < n
    · have hlt' : (i : Int) < (n : Int) := by omega
      have k0 : (0 : Int) ≤ (i : Int) := by omega
      obtain ⟨g', rfl⟩ : ∃ g', gk = g' + 1 := ⟨gk - 1, by omega⟩
      obtain ⟨h1, h2, c1, f1, hnew⟩ := fill_at HO.out (by simp) hik true
      have HN : Put (_) := ⟨hnew⟩
      have HBn : Put (_) := ⟨HBr.out.setCell (p := ⟨w.heap.size, i, none⟩) (Nat.le_refl _) (.bool true)⟩
      clear hnew HO HBr
      go_wp2
      go_roundg g'
      case measure => exact Nat.lt_succ_self _
      case rel => exact ⟨i + 1, by go_num, by omega, HBn, ⟨by have := HN.out; rwa [← List.replicate_succ'] at this⟩⟩
    · obtain rfl : i = n := by omega
      have hlt' : ¬ ((i : Int) < (i : Int)) := by omega
      obtain rfl : gk = 0 := by omega
      go_wp2
      go_ret
      exact ⟨⟨_, rfl, by have := HO.out; simpa using this⟩, HBr.out⟩
/-- A list of truths can be read. -/
def RdB (w : World) (v : Value) (l : List Bool) : Prop := ∃ g cap, v = .slice (some ⟨g, 0, none⟩) l.length cap ∧ g < w.heap.size ∧ l.length ≤ cap ∧ ∀ k (hk : k < l.length), w.cell? ⟨g, k, none⟩ = some (.bool l[k])
theorem RdB.of {base : Nat} {v : Value} {l : List Bool} (h : w.ownsRow base 4 1 v l.length (bls l)) (hl : 0 < l.length) : RdB w v l := by
  obtain ⟨g, cap, e, _, h2, h3, h4⟩ := bls_at h hl
  exact ⟨g, cap, e, h2, h3, h4⟩
theorem RdB.below {v : Value} {l : List Bool} {w' : World} (h : RdB w v l) (hb : Below w.heap.size w w') : RdB w' v l := by
  obtain ⟨g, cap, e, h2, h3, h4⟩ := h
  exact ⟨g, cap, e, Nat.lt_of_lt_of_le h2 hb.size, h3, fun k hk => (hb.cell (p := ⟨g, k, none⟩) h2).trans (h4 k hk)⟩
def meetL (A B : List Bool) : List Bool := List.zipWith (fun a b => a && b) A B
theorem meetL_len {A B : List Bool} (h : B.length = A.length) : (meetL A B).length = A.length := by simp [meetL, h]
theorem meetL_get {A B : List Bool} {i : Nat} (h : i < A.length) (h' : i < B.length) : (meetL A B).take (i + 1) = (meetL A B).take i ++ [A[i] && B[i]] := by
  have hl : i < (meetL A B).length := by simp [meetL]; omega
  rw [List.take_succ_eq_append_getElem hl]
  simp [meetL]
set_option maxRecDepth 100000 in
set_option maxHeartbeats 800000 in
theorem meet_any (A B : List Bool) (va vb : Value) (h0 : 0 < A.length) (hn : A.length ≤ 7000) (hAB : B.length = A.length) (ha : RdB w va A) (hb : RdB w vb B) :
    Calls Tryz.prog 71 #[va, vb] w fun e w' => (∃ v, e = .returned v ∧ w'.ownsRow w.heap.size 4 1 v (meetL A B).length (bls (meetL A B))) ∧ Below w.heap.size w w' := by
  obtain ⟨ga, ca, rfl, hga, hca, hcA⟩ := ha
  obtain ⟨gb, cb, rfl, hgb, hcb, hcB⟩ := hb
  obtain ⟨j0, hi, hz0, hz1, hz2⟩ := info_parts infoB
  have HA : Put (_) := ⟨hcA⟩
  have HBb : Put (_) := ⟨hcB⟩
  have HL : Put (B.length = A.length) := ⟨hAB⟩
  rw [hAB] at hcb ⊢
  clear hcA hcB hAB
  go_enter Tryz.func71, Tryz.ntmps71
  go_wp2_with (at_make; refine wpList_make_full _ rfl _ _ 105 rfl w.heap.size 4 j0 _ 1 Tryz.underlying105 hi hz0 hz1 .i64 .i64 _ _ A.length rfl rfl rfl rfl (by rw [hz2]; omega) (by unfold maxLen; omega) (by simp) ?_)
  intro w2 hown hgr
  rw [made_bls] at hown
  have hB2 : Below w.heap.size w w2 := (Below.refl _ _).grown hgr (by simp) (fun k h => by cases h)
  have HO : Put (_) := ⟨hown⟩
  have HB2 : Put (_) := ⟨hB2⟩
  clear hown hgr hB2
  go_wp2_with fail
  go_loopg [6] A.length (fun gk iv wr => ∃ i : Nat, iv = .int .i64 i ∧ i + gk = A.length ∧ Put (Below w.heap.size w wr) ∧ Put (wr.ownsRow w.heap.size 4 1 (.slice (some ⟨w.heap.size, 0, none⟩) A.length A.length) A.length (bls ((meetL A B).take i ++ List.replicate gk false))))
  case atStart => exact ⟨0, rfl, by omega, HB2, HO⟩
  case round =>
    clear HB2 HO
    obtain ⟨i, rfl, hik, HBr, HO⟩ := hrel
    by_cases hlt : i < A.length
    · have hlt' : (i : Int) < (A.length : Int) := by omega
      have k0 : (0 : Int) ≤ (i : Int) := by omega
      obtain ⟨g', rfl⟩ : ∃ g', gk = g' + 1 := ⟨gk - 1, by omega⟩
      have hltB : i < B.length := by have := HL.out; omega
      have q1 := (HBr.out.cell (p := ⟨ga, i, none⟩) hga).trans (HA.out i hlt)
      have q2 := (HBr.out.cell (p := ⟨gb, i, none⟩) hgb).trans (HBb.out i hltB)
      obtain ⟨h1, h2, c1, f1, hnew⟩ := fill_at HO.out (by rw [List.length_take, meetL_len HL.out]; omega) hik (A[i] && B[i])
      rw [← meetL_get hlt hltB] at hnew
      have HN : Put (_) := ⟨hnew⟩
      have HBn : Put (_) := ⟨HBr.out.setCell (p := ⟨w.heap.size, i, none⟩) (Nat.le_refl _) (.bool (A[i] && B[i]))⟩
      clear hnew HO HBr
      generalize A[i] = x at *
      generalize B[i] = y at *
      cases x
      · rw [Bool.false_and] at HBn HN
        go_wp2
        go_roundg g'
        case measure => exact Nat.lt_succ_self _
        case rel => exact ⟨i + 1, by go_num, by omega, HBn, HN⟩
      · rw [Bool.true_and] at HBn HN
        go_wp2
        go_roundg g'
        case measure => exact Nat.lt_succ_self _
        case rel => exact ⟨i + 1, by go_num, by omega, HBn, HN⟩
    · obtain rfl : i = A.length := by omega
      have hlt' : ¬ ((A.length : Int) < (A.length : Int)) := by omega
      obtain rfl : gk = 0 := by omega
      have HE : Put ((meetL A B).take A.length = meetL A B) := ⟨List.take_of_length_le (by rw [meetL_len HL.out]; exact Nat.le_refl _)⟩
      have HE2 : Put (_) := ⟨meetL_len HL.out⟩
      go_wp2
      go_ret
      exact ⟨⟨_, rfl, by have := HO.out; rw [HE.out] at this; rw [HE2.out]; simpa using this⟩, HBr.out⟩
end
end Go.Proofs.YtgoebckimmofoaaGreatDoor

/- The document's until, walked. Our own text. -/
namespace Go.Proofs.YtgoebckimmofoaaGreatDoor
open Go.RowKit Go.Lib
/-- The truth at a place of a list. -/
def at_ (l : List Bool) (k : Nat) : Bool := l.getD k false
def untL (A B : List Bool) (loop : Nat) (wk : Bool) : List Bool := (List.range A.length).map (unt A.length loop (at_ A) (at_ B) wk A.length)
theorem untL_len {A B : List Bool} {loop : Nat} {wk : Bool} : (untL A B loop wk).length = A.length := by simp [untL]
theorem untL_get {A B : List Bool} {loop : Nat} {wk : Bool} {i : Nat} (h : i < A.length) : (untL A B loop wk).take (i + 1) = (untL A B loop wk).take i ++ [unt A.length loop (at_ A) (at_ B) wk A.length i] := by
  have hl : i < (untL A B loop wk).length := by rw [untL_len]; exact h
  rw [List.take_succ_eq_append_getElem hl]
  simp [untL]
theorem at_get {l : List Bool} {k : Nat} (h : k < l.length) : l[k] = at_ l k := by simp [at_, h]
theorem nxt_lt {n loop k : Nat} (hl : loop < n) : nxt n loop k < n := by unfold nxt; split <;> omega
section
variable {w : World}
set_option maxRecDepth 100000 in
set_option maxHeartbeats 1600000 in
theorem until_any (A B : List Bool) (va vb : Value) (ao : Option Addr) (cap loop : Nat) (wk : Bool) (h0 : 0 < A.length) (hn : A.length ≤ 7000) (hl : loop < A.length) (hAB : B.length = A.length) (ha : RdB w va A) (hb : RdB w vb B) :
    Calls Tryz.prog 69 #[va, vb, .agg #[.slice ao A.length cap, .int .i64 loop], .bool wk] w fun e w' => (∃ v, e = .returned v ∧ w'.ownsRow w.heap.size 4 1 v (untL A B loop wk).length (bls (untL A B loop wk))) ∧ Below w.heap.size w w' := by
  obtain ⟨ga, ca, rfl, hga, hca, hcA⟩ := ha
  obtain ⟨gb, cb, rfl, hgb, hcb, hcB⟩ := hb
  obtain ⟨j0, hi, hz0, hz1, hz2⟩ := info_parts infoB
  have HA : Put (∀ k, k < A.length → w.cell? ⟨ga, k, none⟩ = some (.bool (at_ A k))) := ⟨fun k hk => by rw [hcA k hk, at_get hk]⟩
  have HBb : Put (∀ k, k < A.length → w.cell? ⟨gb, k, none⟩ = some (.bool (at_ B k))) := ⟨fun k hk => by rw [hcB k (by omega), at_get (by omega)]⟩
  have hbx := heap_alloc_new w (.cells #[.slice ao A.length cap, .int .i64 loop] 46)
  have hB1 : Below w.heap.size w (w.alloc (.cells #[.slice ao A.length cap, .int .i64 loop] 46)) := (Below.refl _ _).alloc (Nat.le_refl _) _
  have HBX : Put (_ ∧ _) := ⟨hbx, hB1⟩
  rw [hAB] at hcb ⊢
  clear hcA hcB hAB hbx hB1
  go_enter Tryz.func69, Tryz.ntmps69
  go_wp2_with (at_make; refine wpList_make_full _ rfl _ _ 105 rfl w.heap.size 4 j0 _ 1 Tryz.underlying105 hi hz0 hz1 .i64 .i64 _ _ A.length rfl rfl rfl rfl (by rw [hz2]; omega) (by unfold maxLen; omega) (by simp) ?_)
  intro w2 hown hgr
  rw [made_bls] at hown
  have hB2 : Below w.heap.size w w2 := HBX.out.2.grown hgr (by simp) (fun k h => by cases h)
  have hbox2 : w2.heap[w.heap.size]? = some (.cells #[.slice ao A.length cap, .int .i64 loop] 46 (0, 0)) := (hgr.block w.heap.size (by simp) (by simp)).trans HBX.out.1
  have HO : Put (_) := ⟨hown⟩
  have HB2 : Put (_) := ⟨hB2⟩
  have HX2 : Put (_) := ⟨hbox2⟩
  clear hown hgr hB2 hbox2 HBX
  go_wp2_with fail
  go_loopg [10] A.length (fun gk iv wr => ∃ i : Nat, iv = .int .i64 i ∧ i + gk = A.length ∧ Put (Below w.heap.size w wr) ∧ Put (wr.heap[w.heap.size]? = some (.cells #[.slice ao A.length cap, .int .i64 loop] 46 (0, 0))) ∧ Put (wr.ownsRow w.heap.size 4 1 (.slice (some ⟨w.heap.size + 1, 0, none⟩) A.length A.length) A.length (bls ((untL A B loop wk).take i ++ List.replicate gk false))))
  case atStart => exact ⟨0, rfl, by omega, HB2, HX2, HO⟩
  case round =>
    clear HB2 HO HX2
    obtain ⟨i, rfl, hik, HBr, HXr, HO⟩ := hrel
    by_cases hlt : i < A.length
    · have hlt' : (i : Int) < (A.length : Int) := by omega
      obtain ⟨g', rfl⟩ : ∃ g', gk = g' + 1 := ⟨gk - 1, by omega⟩
      obtain ⟨R, hR⟩ : ∃ R, R = unt A.length loop (at_ A) (at_ B) wk A.length i := ⟨_, rfl⟩
      have HR : Put (_ = _) := ⟨hR⟩
      clear hR
      obtain ⟨wo, rfl⟩ : ∃ wo, wo = wr := ⟨_, rfl⟩
      have HT : Put ((untL A B loop wk).take (i + 1) = (untL A B loop wk).take i ++ [R]) := ⟨by rw [HR.out]; exact untL_get hlt⟩
      go_wp2_with fail
      go_loopg [11, 12] A.length (fun gk kv nv wi => ∃ c k : Nat, kv = .int .i64 k ∧ nv = .int .i64 c ∧ c + gk = A.length ∧ k < A.length ∧ Put (Below wo.heap.size wo wi) ∧ Put (unt A.length loop (at_ A) (at_ B) wk gk k = R))
      case atStart => exact ⟨0, i, rfl, rfl, by omega, hlt, ⟨Below.refl _ _⟩, ⟨HR.out.symm⟩⟩
      case round =>
        clear HR
        obtain ⟨c, k, rfl, rfl, hck, hkl, HBi, HR⟩ := hrel
        have hBw := HBr.out.trans (HBi.out.mono HBr.out.size)
        have qa := (hBw.cell (p := ⟨ga, k, none⟩) hga).trans (HA.out k hkl)
        have qb := (hBw.cell (p := ⟨gb, k, none⟩) hgb).trans (HBb.out k hkl)
        have hXi := (HBi.out.block _ (lt_of_block HXr.out)).trans HXr.out
        have x0 := two_cell0 hXi
        have x1 := two_cell1 hXi
        obtain ⟨h1, h2, c1, f1, hnew⟩ := fill_at (HBi.out.ownsRow' HO.out) (by rw [List.length_take, untL_len]; omega) hik R
        rw [← HT.out] at hnew
        have k0 : (0 : Int) ≤ (k : Int) := by omega
        have k1 : (k : Int) < (A.length : Int) := by omega
        have i0 : (0 : Int) ≤ (i : Int) := by omega
        generalize hav : at_ A k = av at *
        generalize hbv : at_ B k = bv at *
        by_cases hc : c < A.length
        · have hc' : (c : Int) < (A.length : Int) := by omega
          have hcn : ¬ ((c : Int) = (A.length : Int)) := by omega
          obtain ⟨gi, rfl⟩ : ∃ gi, gk = gi + 1 := ⟨gk - 1, by omega⟩
          have hRv := HR.out
          rw [unt1, hav, hbv] at hRv
          clear HR
          cases bv
          · cases av
            · simp only [Bool.not_false, Bool.and_false, if_false, Bool.false_eq_true] at hRv
              have HN : Put (_) := ⟨hnew⟩
              have HBn : Put (_) := ⟨hBw.setCell (p := ⟨w.heap.size + 1, i, none⟩) (by show w.heap.size ≤ w.heap.size + 1; omega) (.bool R)⟩
              have HXn : Put (_) := ⟨(heap_setCell_other wr ⟨w.heap.size + 1, i, none⟩ w.heap.size (.bool R) (by show w.heap.size ≠ w.heap.size + 1; omega)).trans hXi⟩
              clear hnew hBw hXi HBi
              subst hRv
              go_wp2
              go_roundg g'
              case measure => exact Nat.lt_succ_self _
              case rel => exact ⟨i + 1, by go_num, by omega, HBn, HXn, HN⟩
            · simp only [Bool.not_false, Bool.and_true, if_true] at hRv
              have HRv : Put (_ = _) := ⟨hRv⟩
              have HBw : Put (_) := ⟨hBw⟩
              clear hnew hBw hXi hRv
              go_wp2_with fail
              refine (dnext_any k A.length loop ao cap hkl hn).mono ?_
              rintro e w5 ⟨rfl, hb5⟩
              have HB5 : Put (_) := ⟨HBi.out.trans (hb5.mono HBi.out.size)⟩
              clear hb5
              go_wp2
              go_roundg gi
              case measure => exact Nat.lt_succ_self _
              case rel => exact ⟨c + 1, nxt A.length loop k, rfl, by go_num, by omega, nxt_lt hl, HB5, HRv⟩
          · simp only [Bool.not_true, Bool.false_and, if_false, Bool.false_eq_true] at hRv
            have HN : Put (_) := ⟨hnew⟩
            have HBn : Put (_) := ⟨hBw.setCell (p := ⟨w.heap.size + 1, i, none⟩) (by show w.heap.size ≤ w.heap.size + 1; omega) (.bool R)⟩
            have HXn : Put (_) := ⟨(heap_setCell_other wr ⟨w.heap.size + 1, i, none⟩ w.heap.size (.bool R) (by show w.heap.size ≠ w.heap.size + 1; omega)).trans hXi⟩
            clear hnew hBw hXi HBi
            subst hRv
            go_wp2
            go_roundg g'
            case measure => exact Nat.lt_succ_self _
            case rel => exact ⟨i + 1, by go_num, by omega, HBn, HXn, HN⟩
        · obtain rfl : c = A.length := by omega
          obtain rfl : gk = 0 := by omega
          have hc' : ¬ ((A.length : Int) < (A.length : Int)) := by omega
          have hRv := HR.out
          rw [unt0, hbv] at hRv
          clear HR
          cases bv
          · simp only [Bool.false_or] at hRv
            have HN : Put (_) := ⟨hnew⟩
            have HBn : Put (_) := ⟨hBw.setCell (p := ⟨w.heap.size + 1, i, none⟩) (by show w.heap.size ≤ w.heap.size + 1; omega) (.bool R)⟩
            have HXn : Put (_) := ⟨(heap_setCell_other wr ⟨w.heap.size + 1, i, none⟩ w.heap.size (.bool R) (by show w.heap.size ≠ w.heap.size + 1; omega)).trans hXi⟩
            clear hnew hBw hXi HBi
            subst hRv
            go_wp2
            go_roundg g'
            case measure => exact Nat.lt_succ_self _
            case rel => exact ⟨i + 1, by go_num, by omega, HBn, HXn, HN⟩
          · simp only [Bool.true_or] at hRv
            have HN : Put (_) := ⟨hnew⟩
            have HBn : Put (_) := ⟨hBw.setCell (p := ⟨w.heap.size + 1, i, none⟩) (by show w.heap.size ≤ w.heap.size + 1; omega) (.bool R)⟩
            have HXn : Put (_) := ⟨(heap_setCell_other wr ⟨w.heap.size + 1, i, none⟩ w.heap.size (.bool R) (by show w.heap.size ≠ w.heap.size + 1; omega)).trans hXi⟩
            clear hnew hBw hXi HBi
            subst hRv
            go_wp2
            go_roundg g'
            case measure => exact Nat.lt_succ_self _
            case rel => exact ⟨i + 1, by go_num, by omega, HBn, HXn, HN⟩
    · obtain rfl : i = A.length := by omega
      have hlt' : ¬ ((A.length : Int) < (A.length : Int)) := by omega
      obtain rfl : gk = 0 := by omega
      have HE : Put ((untL A B loop wk).take A.length = untL A B loop wk) := ⟨List.take_of_length_le (by rw [untL_len]; exact Nat.le_refl _)⟩
      have HE2 : Put (_) := ⟨untL_len (A := A) (B := B) (loop := loop) (wk := wk)⟩
      go_wp2
      go_ret
      exact ⟨⟨_, rfl, by have := HO.out; rw [HE.out] at this; rw [HE2.out]; simpa using this⟩, HBr.out⟩
end
end Go.Proofs.YtgoebckimmofoaaGreatDoor

/- The digits of a state. Our own text. -/
namespace Go.Proofs.YtgoebckimmofoaaGreatDoor
open Go.RowKit Go.Lib

/-- The digits of a text. -/
def dgs (s : ByteArray) : List Nat := s.data.toList.map (fun b => b.toNat - 48)
theorem okT_dgs {s : ByteArray} {tops : List Nat} (h : okT s tops) : s = txtL (dgs s) ∧ (dgs s).length = tops.length ∧ ∀ k (h1 : k < (dgs s).length) (h2 : k < tops.length), (dgs s)[k] ≤ tops[k] := by
  obtain ⟨h1, h2⟩ := h
  refine ⟨?_, by unfold dgs; rw [List.length_map, Array.length_toList]; exact h1, fun k hk1 hk2 => ?_⟩
  · cases s with
    | mk data =>
      unfold txtL dgs
      congr 1
      rw [List.map_map]
      apply Array.ext'
      simp only
      symm
      refine (List.map_congr_left (fun b hb => ?_)).trans (List.map_id' _)
      obtain ⟨k, hk, rfl⟩ := List.mem_iff_getElem.1 hb
      have hk' : k < data.size := by simpa using hk
      have := h2 k hk' (by have : data.size = tops.length := h1; omega)
      have h3 : 48 ≤ data[k].toNat := this.1
      simp only [Function.comp, Array.getElem_toList]
      have e : 48 + (data[k].toNat - 48) = data[k].toNat := by omega
      rw [e]; simp
  · have hk' : k < s.size := by
      have hk3 := hk1
      unfold dgs at hk3
      rw [List.length_map, Array.length_toList] at hk3
      exact hk3
    have := h2 k hk' hk2
    have h3 : s.data[k].toNat ≤ 48 + tops[k] := this.2
    have h4 : (dgs s)[k] = s.data[k].toNat - 48 := by simp [dgs]
    omega
def topsA (va : List VA) : List Nat := va.map (fun v => v.1)
end Go.Proofs.YtgoebckimmofoaaGreatDoor
