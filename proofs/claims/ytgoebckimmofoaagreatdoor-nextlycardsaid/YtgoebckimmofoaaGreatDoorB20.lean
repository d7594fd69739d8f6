import Derived.Test.YtgoebckimmofoaaGreatDoorRows
import Derived.WalkKit
import Derived.WalkSpells
import Derived.WalkLawsBesides
import Derived.Deep.QuietTactic
import Derived.BigQuiet
import Derived.RegionTactic
import Derived.Lib.TrailingZeros
import Derived.Laws.Bits64b
import Derived.Deep.LoopGhost
import Derived.Deep.RegionLaw
import Derived.Deep.RegionHeld3
import Derived.Stop.RegionWithIn
import Derived.Shelf.RegionOpen
import Derived.Scope
import Derived.WalkMore
import Derived.Deep.AppendLies
import Derived.Laws.IdiomStrings
import Derived.Maps.AppendAt
import Derived.RangeFuncBox
import Derived.Deep.RegionHeld
import Derived.RangeFuncNested
import Derived.RangeFuncBound
import Derived.RangeFuncCalls
import Derived.RangeFuncLeaves
import Derived.Shelf.Abstract
import Derived.OwnWalkIn
import Derived.TacticsInMore
import Derived.LoopNIn
import Derived.LoopIn
import Derived.Test.YtgoebckimmofoaaGreatDoorB1
import Derived.Test.YtgoebckimmofoaaGreatDoorB4
import Derived.Test.YtgoebckimmofoaaGreatDoorB5
import Derived.Test.YtgoebckimmofoaaGreatDoorB6
import Derived.Test.YtgoebckimmofoaaGreatDoorB7
import Derived.Test.YtgoebckimmofoaaGreatDoorB8
import Derived.Test.YtgoebckimmofoaaGreatDoorB11
import Derived.Test.YtgoebckimmofoaaGreatDoorB17
import Derived.Test.YtgoebckimmofoaaGreatDoorB18
import Derived.Test.YtgoebckimmofoaaGreatDoorB19
import Derived.Test.YtgoebckimmofoaaGreatDoorB10
import Derived.Test.YtgoebckimmofoaaGreatDoorB2
import Derived.Deep.OwnRows
import Derived.MapKept
import Derived.Lib.Bytealg
import Derived.Lib.IndexLaws
import Derived.Laws.EntriesVeiled
import Derived.Deep.DrawnRows
import Derived.Test.YtgoebckimmofoaaGreatDoorB9
import Derived.Test.YtgoebckimmofoaaGreatDoorB16
/- The document's nameless, walked; what formulas are read. Our own text. -/
namespace Go.Proofs.YtgoebckimmofoaaGreatDoor
open Go.RowKit Go.Lib
/-- Only the signs there are. -/
def Fm.Ok : Fm → Prop
  | ⟨o, c, 0, _⟩ => o = 84 ∨ (o = 99 ∧ PC c)
  | ⟨o, _, 1, k⟩ => (o = 33 ∨ o = 88 ∨ o = 70 ∨ o = 71) ∧ (k 0).Ok
  | ⟨o, _, 2, k⟩ => (o = 38 ∨ o = 124 ∨ o = 85 ∨ o = 82 ∨ o = 87) ∧ (k 0).Ok ∧ (k 1).Ok
  | ⟨_, _, _ + 3, _⟩ => False
theorem ok_tt : Fm.tt.Ok := .inl rfl
theorem ok_un {o : Nat} {a : Fm} (ho : o = 33 ∨ o = 88 ∨ o = 70 ∨ o = 71) (h : a.Ok) : (Fm.un o a).Ok := ⟨ho, h⟩
theorem ok_bin {o : Nat} {a b : Fm} (ho : o = 38 ∨ o = 124 ∨ o = 85 ∨ o = 82 ∨ o = 87) (h : a.Ok) (k : b.Ok) : (Fm.bin o a b).Ok := ⟨ho, h, k⟩
theorem pF_ok (s : ByteArray) : ∀ (n m : Nat) (x : FSt), (pF s n m x).1.Ok := by
  intro n
  induction n with
  | zero => intro m x; exact ok_tt
  | succ n ih =>
    intro m x
    match m with
    | 0 =>
      rw [pF0]
      split
      · exact ok_un (by omega) (ih _ _)
      · split
        · exact ok_un (by omega) (ih _ _)
        · split
          · exact ok_un (by omega) (ih _ _)
          · split
            · exact ok_un (by omega) (ih _ _)
            · split
              · exact ok_tt
              · split
                · exact ih _ _
                · split
                  · next e => exact .inr ⟨rfl, qCond_rng e⟩
                  · exact ok_tt
    | 1 =>
      rw [pF1]
      dsimp only
      split
      · exact ok_bin (by omega) (ih _ _) (ih _ _)
      · split
        · exact ok_bin (by omega) (ih _ _) (ih _ _)
        · split
          · exact ok_bin (by omega) (ih _ _) (ih _ _)
          · exact ih _ _
    | 2 =>
      rw [pF2]
      dsimp only
      split
      · exact ok_bin (by omega) (ih _ _) (ih _ _)
      · exact ih _ _
    | m + 3 =>
      rw [pF3]
      dsimp only
      split
      · exact ok_bin (by omega) (ih _ _) (ih _ _)
      · exact ih _ _
theorem qForm_ok (s : ByteArray) : (qForm s).1.Ok := pF_ok s _ _ _
/-- The first name that no variable has. -/
def nmF (nv : Nat) : Fm → Int
  | ⟨o, c, 0, _⟩ => if o = 99 then unnamed nv c.1 c.2 else -1
  | ⟨_, _, 1, k⟩ => nmF nv (k 0)
  | ⟨_, _, 2, k⟩ => if 0 ≤ nmF nv (k 0) then nmF nv (k 0) else nmF nv (k 1)
  | ⟨_, _, _ + 3, _⟩ => -1
theorem nmF_neg (nv : Nat) : ∀ t : Fm, t.Ok → ¬ (0 ≤ nmF nv t) → nmF nv t = -1
  | ⟨o, c, 0, _⟩, ho, h => by
    unfold nmF at h ⊢
    rcases ho with rfl | ⟨rfl, hc⟩
    · rfl
    · simp only [if_true] at h ⊢
      unfold unnamed at h ⊢
      obtain ⟨⟨_, _, h1⟩, _, _, h2⟩ := hc
      split at h
      · omega
      · split at h
        · omega
        · next h3 h4 => rw [if_neg h3, if_neg h4]
  | ⟨_, _, 1, k⟩, ho, h => nmF_neg nv (k 0) ho.2 h
  | ⟨_, _, 2, k⟩, ho, h => by
    unfold nmF at h ⊢
    split at h
    · omega
    · next h1 => rw [if_neg h1]; exact nmF_neg nv (k 1) ho.2.2 h
  | ⟨_, _, _ + 3, _⟩, ho, _ => False.elim ho
set_option maxRecDepth 100000 in
set_option maxHeartbeats 1600000 in
theorem nameless_any (nv : Nat) (s : ByteArray) (ao aor : Option Addr) (cap nr capr : Nat) (t : Fm) : ∀ (L : Nat) (vs : List Value) (w : World), t.Ok → NV L s w t vs →
    Calls Tryz.prog 41 #[.agg #[.slice ao nv cap, .slice aor nr capr], .agg vs.toArray] w fun e w' => e = .returned (.int .i64 (nmF nv t)) ∧ Below w.heap.size w w' := by
  induction t with
  | mk o c n k ih =>
    intro L vs w ho hv
    match n, k, ih, ho, hv with
    | 0, k, ih, ho, hv =>
      rcases ho with rfl | ⟨rfl, hc⟩
      · have e : vs = [.int .u8 84, .int .i64 0, .int .i64 0, .int .i64 0, .int .i64 0, .int .i64 0, .int .i64 0, .int .u8 0, .slice none 0 0] := hv
        have hR : Put (nmF nv ⟨84, c, 0, k⟩ = -1) := ⟨rfl⟩
        subst e
        clear ih hv
        go_enter Tryz.func41, Tryz.ntmps41
        go_wp2_with fail
        go_loopg [5] 0 (fun gk iv wr => iv = .int .i64 0 ∧ Below w.heap.size w wr ∧ wr.cell? ⟨w.heap.size + 1, 8, none⟩ = some (.slice none 0 0))
        case atStart => exact ⟨rfl, ((Below.refl _ _).alloc (Nat.le_refl _) _).alloc (by simp) _, by
          have := heap_alloc_new (w.alloc (.cells #[.slice ao nv cap, .slice aor nr capr] 65)) (.cells #[.int .u8 84, .int .i64 0, .int .i64 0, .int .i64 0, .int .i64 0, .int .i64 0, .int .i64 0, .int .u8 0, .slice none 0 0] 90)
          rw [World.size_alloc] at this
          exact (blk9 this).1.2.2.2.2.2.2.2.2⟩
        case round =>
          obtain ⟨rfl, hbr, hc8⟩ := hrel
          have HBr : Put (_) := ⟨hbr⟩
          clear hbr
          go_wp2
          go_ret
          exact ⟨by rw [hR.out]; rfl, HBr.out⟩
      · have e : vs = .int .u8 99 :: c7 s c ++ [.slice none 0 0] := hv
        unfold c7 at e
        subst e
        clear ih hv
        have hR : Put (nmF nv ⟨99, c, 0, k⟩ = unnamed nv c.1 c.2) := ⟨rfl⟩
        go_enter Tryz.func41, Tryz.ntmps41
        go_wp2_with fail
        refine (unnamed_any nv c.1 c.2 ao aor cap nr capr).mono ?_
        rintro e w1 ⟨rfl, hb1⟩
        have HB : Put (_) := ⟨hb1⟩
        clear hb1
        go_wp2
        go_ret
        exact ⟨by rw [hR.out]; rfl, (((Below.refl _ _).alloc (Nat.le_refl _) _).alloc (by simp) _).trans (HB.out.mono (by simp; omega))⟩
    | 1, k, ih, ho, hv =>
      obtain ⟨hop, hok⟩ := ho
      obtain ⟨b, cp, us, e, hLb, hblk, hNV⟩ := hv
      subst e
      obtain ⟨y0, y1, y2, y3, y4, y5, y6, y7, y8, rfl⟩ := len9 hNV.len
      have ho9 : ¬ (o = 99) := by omega
      have ho9' : ¬ ((o : Int) = 99) := by omega
      have hbl := lt_of_block hblk
      have HC : Put (∀ wr, Below w.heap.size w wr → Calls Tryz.prog 41 #[.agg #[.slice ao nv cap, .slice aor nr capr], .agg #[y0, y1, y2, y3, y4, y5, y6, y7, y8]] wr fun e w' => e = .returned (.int .i64 (nmF nv (k 0))) ∧ Below wr.heap.size wr w') := ⟨fun wr hb => ih 0 L _ wr hok (hNV.keep (Nat.le_refl _) (fun k _ h2 => hb.block k h2))⟩
      have hR : Put (nmF nv ⟨o, c, 1, k⟩ = nmF nv (k 0)) := ⟨rfl⟩
      have HN : Put (¬ (0 ≤ nmF nv (k 0)) → nmF nv (k 0) = -1) := ⟨nmF_neg nv _ hok⟩
      have HBlk : Put (_) := ⟨hblk⟩
      generalize hX : nmF nv (k 0) = X at *
      clear ih hNV hop hok hblk hX
      unfold z7
      go_enter Tryz.func41, Tryz.ntmps41
      go_wp2_with fail
      generalize hW : (w.alloc (.cells #[.slice ao nv cap, .slice aor nr capr] 65)).alloc (.cells #[.int .u8 o, .int .i64 0, .int .i64 0, .int .i64 0, .int .i64 0, .int .i64 0, .int .i64 0, .int .u8 0, .slice (some ⟨b, 0, none⟩) 1 cp] 90) = W at *
      have HW1 : Put (Below w.heap.size w W) := ⟨by rw [← hW]; exact ((Below.refl _ _).alloc (Nat.le_refl _) _).alloc (by simp) _⟩
      have HW2 : Put (W.heap.size = w.heap.size + 2) := ⟨by rw [← hW]; simp⟩
      have HM0 : Put (W.heap[w.heap.size]? = some (.cells #[.slice ao nv cap, .slice aor nr capr] 65 (0, 0))) := ⟨by rw [← hW, Below.heap_alloc _ _ _ (by simp), heap_alloc_new]⟩
      have HM1 : Put (W.heap[w.heap.size + 1]? = some (.cells #[.int .u8 o, .int .i64 0, .int .i64 0, .int .i64 0, .int .i64 0, .int .i64 0, .int .i64 0, .int .u8 0, .slice (some ⟨b, 0, none⟩) 1 cp] 90 (0, 0))) := ⟨by
        rw [← hW]
        have := heap_alloc_new (w.alloc (.cells #[.slice ao nv cap, .slice aor nr capr] 65)) (.cells #[.int .u8 o, .int .i64 0, .int .i64 0, .int .i64 0, .int .i64 0, .int .i64 0, .int .i64 0, .int .u8 0, .slice (some ⟨b, 0, none⟩) 1 cp] 90)
        simpa using this⟩
      clear hW
      go_loopg [5] 1 (fun gk iv wr => ∃ i : Nat, iv = .int .i64 i ∧ i + gk = 1 ∧ Put (Below W.heap.size W wr) ∧ Put (1 ≤ i → X = -1))
      case atStart => exact ⟨0, rfl, rfl, ⟨Below.refl _ _⟩, ⟨fun h => absurd h (by omega)⟩⟩
      case round =>
        obtain ⟨i, rfl, hik, HBr, HPi⟩ := hrel
        have hm0 := (HBr.out.block _ (lt_of_block HM0.out)).trans HM0.out
        have hm1 := (HBr.out.block _ (lt_of_block HM1.out)).trans HM1.out
        have q0 : wr.cell? ⟨w.heap.size, 0, none⟩ = some (.slice ao nv cap) := by simp [World.cell?, hm0]
        have q1 : wr.cell? ⟨w.heap.size, 1, none⟩ = some (.slice aor nr capr) := by simp [World.cell?, hm0]
        have q8 : wr.cell? ⟨w.heap.size + 1, 8, none⟩ = some (.slice (some ⟨b, 0, none⟩) 1 cp) := by simp [World.cell?, hm1]
        clear hm0 hm1
        obtain rfl | rfl : i = 0 ∨ i = 1 := by omega
        · have hbk := ((HW1.out.trans (HBr.out.mono HW1.out.size)).block b hbl).trans HBlk.out
          obtain ⟨⟨n0, n1, n2, n3, n4, n5, n6, n7, n8⟩, nf⟩ := blk9 hbk
          clear hbk nf
          have HCr : Put (_) := ⟨HC.out wr.drew (HW1.out.trans (HBr.out.mono HW1.out.size)).drew⟩
          go_wp2_with fail
          go_region_law ((go_simp; go_at_call 41; refine HCr.out.mono ?_; rintro e w3 ⟨rfl, hb3⟩))
          all_goals
            have HB3 : Put (Below W.heap.size W w3) := ⟨HBr.out.drew.trans (hb3.mono HBr.out.size)⟩
            clear hb3 HCr HBr
            by_cases hX0 : 0 ≤ X
            · go_wp2
              go_ret
              exact ⟨by rw [hR.out]; rfl, HW1.out.trans (HB3.out.mono HW1.out.size)⟩
            · have HX : Put (X = -1) := ⟨HN.out (by omega)⟩
              go_wp2
              go_roundg (gk - 1)
              case measure => omega
              case rel => exact ⟨1, by go_num, by omega, HB3, ⟨fun _ => HX.out⟩⟩
        · have HX : Put (X = -1) := ⟨HPi.out (by omega)⟩
          clear HPi
          go_wp2
          go_ret
          exact ⟨by rw [hR.out, HX.out]; rfl, HW1.out.trans (HBr.out.mono HW1.out.size)⟩
    | 2, k, ih, ho, hv =>
      obtain ⟨hop, hok, hok1⟩ := ho
      obtain ⟨b, cp, us, ts, e, hLb, hblk, hNV, hNV1⟩ := hv
      subst e
      obtain ⟨y0, y1, y2, y3, y4, y5, y6, y7, y8, rfl⟩ := len9 hNV.len
      obtain ⟨t0, t1, t2, t3, t4, t5, t6, t7, t8, rfl⟩ := len9 hNV1.len
      replace hblk : w.heap[b]? = some (.cells #[y0, y1, y2, y3, y4, y5, y6, y7, y8, t0, t1, t2, t3, t4, t5, t6, t7, t8] 90 (0, 0)) := hblk
      have ho9 : ¬ (o = 99) := by omega
      have ho9' : ¬ ((o : Int) = 99) := by omega
      have hbl := lt_of_block hblk
      have HC : Put (∀ wr, Below w.heap.size w wr → Calls Tryz.prog 41 #[.agg #[.slice ao nv cap, .slice aor nr capr], .agg #[y0, y1, y2, y3, y4, y5, y6, y7, y8]] wr fun e w' => e = .returned (.int .i64 (nmF nv (k 0))) ∧ Below wr.heap.size wr w') := ⟨fun wr hb => ih 0 L _ wr hok (hNV.keep (Nat.le_refl _) (fun k _ h2 => hb.block k h2))⟩
      have HC1 : Put (∀ wr, Below w.heap.size w wr → Calls Tryz.prog 41 #[.agg #[.slice ao nv cap, .slice aor nr capr], .agg #[t0, t1, t2, t3, t4, t5, t6, t7, t8]] wr fun e w' => e = .returned (.int .i64 (nmF nv (k 1))) ∧ Below wr.heap.size wr w') := ⟨fun wr hb => ih 1 L _ wr hok1 (hNV1.keep (Nat.le_refl _) (fun k _ h2 => hb.block k h2))⟩
      have hR : Put (nmF nv ⟨o, c, 2, k⟩ = if 0 ≤ nmF nv (k 0) then nmF nv (k 0) else nmF nv (k 1)) := ⟨rfl⟩
      have HN : Put (¬ (0 ≤ nmF nv (k 1)) → nmF nv (k 1) = -1) := ⟨nmF_neg nv _ hok1⟩
      have HBlk : Put (_) := ⟨hblk⟩
      generalize hX : nmF nv (k 0) = X at *
      generalize hY : nmF nv (k 1) = Y at *
      clear ih hNV hNV1 hop hok hok1 hblk hX hY
      unfold z7
      go_enter Tryz.func41, Tryz.ntmps41
      go_wp2_with fail
      generalize hW : (w.alloc (.cells #[.slice ao nv cap, .slice aor nr capr] 65)).alloc (.cells #[.int .u8 o, .int .i64 0, .int .i64 0, .int .i64 0, .int .i64 0, .int .i64 0, .int .i64 0, .int .u8 0, .slice (some ⟨b, 0, none⟩) 2 cp] 90) = W at *
      have HW1 : Put (Below w.heap.size w W) := ⟨by rw [← hW]; exact ((Below.refl _ _).alloc (Nat.le_refl _) _).alloc (by simp) _⟩
      have HW2 : Put (W.heap.size = w.heap.size + 2) := ⟨by rw [← hW]; simp⟩
      have HM0 : Put (W.heap[w.heap.size]? = some (.cells #[.slice ao nv cap, .slice aor nr capr] 65 (0, 0))) := ⟨by rw [← hW, Below.heap_alloc _ _ _ (by simp), heap_alloc_new]⟩
      have HM1 : Put (W.heap[w.heap.size + 1]? = some (.cells #[.int .u8 o, .int .i64 0, .int .i64 0, .int .i64 0, .int .i64 0, .int .i64 0, .int .i64 0, .int .u8 0, .slice (some ⟨b, 0, none⟩) 2 cp] 90 (0, 0))) := ⟨by
        rw [← hW]
        have := heap_alloc_new (w.alloc (.cells #[.slice ao nv cap, .slice aor nr capr] 65)) (.cells #[.int .u8 o, .int .i64 0, .int .i64 0, .int .i64 0, .int .i64 0, .int .i64 0, .int .i64 0, .int .u8 0, .slice (some ⟨b, 0, none⟩) 2 cp] 90)
        simpa using this⟩
      clear hW
      go_loopg [5] 2 (fun gk iv wr => ∃ i : Nat, iv = .int .i64 i ∧ i + gk = 2 ∧ Put (Below W.heap.size W wr) ∧ Put ((1 ≤ i → ¬ (0 ≤ X)) ∧ (2 ≤ i → Y = -1)))
      case atStart => exact ⟨0, rfl, rfl, ⟨Below.refl _ _⟩, ⟨fun h => absurd h (by omega), fun h => absurd h (by omega)⟩⟩
      case round =>
        obtain ⟨i, rfl, hik, HBr, HPi⟩ := hrel
        have hm0 := (HBr.out.block _ (lt_of_block HM0.out)).trans HM0.out
        have hm1 := (HBr.out.block _ (lt_of_block HM1.out)).trans HM1.out
        have q0 : wr.cell? ⟨w.heap.size, 0, none⟩ = some (.slice ao nv cap) := by simp [World.cell?, hm0]
        have q1 : wr.cell? ⟨w.heap.size, 1, none⟩ = some (.slice aor nr capr) := by simp [World.cell?, hm0]
        have q8 : wr.cell? ⟨w.heap.size + 1, 8, none⟩ = some (.slice (some ⟨b, 0, none⟩) 2 cp) := by simp [World.cell?, hm1]
        clear hm0 hm1
        obtain rfl | rfl | rfl : i = 0 ∨ i = 1 ∨ i = 2 := by omega
        · have hbk := ((HW1.out.trans (HBr.out.mono HW1.out.size)).block b hbl).trans HBlk.out
          have n0 : wr.cell? ⟨b, 0, none⟩ = some y0 := by simp [World.cell?, hbk]
          have n1 : wr.cell? ⟨b, 1, none⟩ = some y1 := by simp [World.cell?, hbk]
          have n2 : wr.cell? ⟨b, 2, none⟩ = some y2 := by simp [World.cell?, hbk]
          have n3 : wr.cell? ⟨b, 3, none⟩ = some y3 := by simp [World.cell?, hbk]
          have n4 : wr.cell? ⟨b, 4, none⟩ = some y4 := by simp [World.cell?, hbk]
          have n5 : wr.cell? ⟨b, 5, none⟩ = some y5 := by simp [World.cell?, hbk]
          have n6 : wr.cell? ⟨b, 6, none⟩ = some y6 := by simp [World.cell?, hbk]
          have n7 : wr.cell? ⟨b, 7, none⟩ = some y7 := by simp [World.cell?, hbk]
          have n8 : wr.cell? ⟨b, 8, none⟩ = some y8 := by simp [World.cell?, hbk]
          clear hbk HPi
          have HCr : Put (_) := ⟨HC.out wr.drew (HW1.out.trans (HBr.out.mono HW1.out.size)).drew⟩
          go_wp2_with fail
          go_region_law ((go_simp; go_at_call 41; refine HCr.out.mono ?_; rintro e w3 ⟨rfl, hb3⟩))
          all_goals
            have HB3 : Put (Below W.heap.size W w3) := ⟨HBr.out.drew.trans (hb3.mono HBr.out.size)⟩
            clear hb3 HCr HBr
            by_cases hX0 : 0 ≤ X
            · go_wp2
              go_ret
              exact ⟨by rw [hR.out, if_pos hX0]; rfl, HW1.out.trans (HB3.out.mono HW1.out.size)⟩
            · have HX : Put (¬ (0 ≤ X)) := ⟨hX0⟩
              go_wp2
              go_roundg (gk - 1)
              case measure => omega
              case rel => exact ⟨1, by go_num, by omega, HB3, ⟨fun _ => HX.out, fun h => absurd h (by omega)⟩⟩
        · have hbk := ((HW1.out.trans (HBr.out.mono HW1.out.size)).block b hbl).trans HBlk.out
          have n0 : wr.cell? ⟨b, 9, none⟩ = some t0 := by simp [World.cell?, hbk]
          have n1 : wr.cell? ⟨b, 10, none⟩ = some t1 := by simp [World.cell?, hbk]
          have n2 : wr.cell? ⟨b, 11, none⟩ = some t2 := by simp [World.cell?, hbk]
          have n3 : wr.cell? ⟨b, 12, none⟩ = some t3 := by simp [World.cell?, hbk]
          have n4 : wr.cell? ⟨b, 13, none⟩ = some t4 := by simp [World.cell?, hbk]
          have n5 : wr.cell? ⟨b, 14, none⟩ = some t5 := by simp [World.cell?, hbk]
          have n6 : wr.cell? ⟨b, 15, none⟩ = some t6 := by simp [World.cell?, hbk]
          have n7 : wr.cell? ⟨b, 16, none⟩ = some t7 := by simp [World.cell?, hbk]
          have n8 : wr.cell? ⟨b, 17, none⟩ = some t8 := by simp [World.cell?, hbk]
          have HX0 : Put (¬ (0 ≤ X)) := ⟨HPi.out.1 (by omega)⟩
          clear hbk HPi
          have HCr : Put (_) := ⟨HC1.out wr.drew (HW1.out.trans (HBr.out.mono HW1.out.size)).drew⟩
          go_wp2_with fail
          go_region_law ((go_simp; go_at_call 41; refine HCr.out.mono ?_; rintro e w3 ⟨rfl, hb3⟩))
          all_goals
            have HB3 : Put (Below W.heap.size W w3) := ⟨HBr.out.drew.trans (hb3.mono HBr.out.size)⟩
            clear hb3 HCr HBr
            by_cases hX0 : 0 ≤ Y
            · go_wp2
              go_ret
              exact ⟨by rw [hR.out, if_neg (show ¬ (0 ≤ X) by have := HX0.out; omega)]; rfl, HW1.out.trans (HB3.out.mono HW1.out.size)⟩
            · have HX : Put (Y = -1) := ⟨HN.out (by omega)⟩
              go_wp2
              go_roundg (gk - 1)
              case measure => omega
              case rel => exact ⟨2, by go_num, by omega, HB3, ⟨fun _ => HX0.out, fun _ => HX.out⟩⟩
        · have HX : Put (nmF nv ⟨o, c, 2, k⟩ = -1) := ⟨by rw [hR.out, if_neg (HPi.out.1 (by omega)), HPi.out.2 (by omega)]⟩
          clear HPi
          go_wp2
          go_ret
          exact ⟨by rw [HX.out]; rfl, HW1.out.trans (HBr.out.mono HW1.out.size)⟩
    | n + 3, k, ih, ho, hv => exact False.elim ho
end Go.Proofs.YtgoebckimmofoaaGreatDoor

/- The document's Formula, walked. Our own text. -/
namespace Go.Proofs.YtgoebckimmofoaaGreatDoor
open Go.RowKit Go.Lib
/-- How many variables a good model has. -/
def nvM (m : ByteArray) : Nat := match qRead m with
  | (some (va, _), _) => va.length
  | _ => 0
/-- What Formula answers where the model is good and the formula not too long. -/
def fErr (m : ByteArray) (r : Fm × FSt) : Nat × Int := match r.2.q with
  | .error p => (2, (p : Int))
  | .ok _ => if 0 ≤ r.2.deep then (6, r.2.deep) else if 0 ≤ nmF (nvM m) r.1 then (3, nmF (nvM m) r.1) else if 4 < r.2.wgt then (7, 0) else (0, 0)
def rForm (m f : ByteArray) : Nat × Int := if (rCheck m).1 ≠ 0 then rCheck m else if 60 < f.size then (1, 0) else fErr m (qForm f)
set_option maxRecDepth 100000 in
set_option maxHeartbeats 1600000 in
theorem rform_any (m f : ByteArray) (w : World) (hm : m.size ≤ maxLen) : Calls Tryz.prog 21 #[.string m, .string f] w fun e w' => e = .returned (.tuple #[.int .i64 ((rForm m f).1 : Nat), .int .i64 (rForm m f).2]) ∧ Below w.heap.size w w' := by
  have HC : Put (_) := ⟨rcheck_any m w hm⟩
  by_cases h0 : (rCheck m).1 = 0
  · obtain ⟨hle, va, ra, q', hq, hw⟩ := rCheck_ok h0
    have hp0 : (rCheck m).2 = 0 := by
      unfold rCheck
      rw [if_neg (by omega), hq]
      obtain ⟨e1, e2⟩ := wrong_none hw
      show (wrongP va ra).2 = 0
      unfold wrongP
      rw [e1, e2]; rfl
    rw [h0, hp0] at HC
    have hnv : nvM m = va.length := by unfold nvM; rw [hq]
    by_cases hl : 60 < f.size
    · have hR : Put (rForm m f = (1, 0)) := ⟨by unfold rForm; rw [if_neg (by omega), if_pos hl]⟩
      have hl' : (60 : Int) < (f.size : Int) := by omega
      rw [hR.out]
      clear hq hw hnv hR
      go_enter Tryz.func21, Tryz.ntmps21
      go_wp2_with fail
      refine HC.out.mono ?_
      rintro e w1 ⟨rfl, hb1⟩
      have HB1 : Put (_) := ⟨hb1⟩
      clear hb1 HC
      go_wp2
      go_ret2
      exact ⟨rfl, HB1.out⟩
    · have hl' : ¬ ((60 : Int) < (f.size : Int)) := by omega
      have hR : rForm m f = fErr m (qForm f) := by unfold rForm; rw [if_neg (by omega), if_neg hl]
      have HQ : Put (qRead m = (some (va, ra), q')) := ⟨hq⟩
      have HOk := qForm_ok f
      rw [hR]
      clear hR hq hw
      have HF : Put (∀ w, Calls Tryz.prog 40 #[.string f] w (FormPost f w)) := ⟨fun w => form_any (by omega)⟩
      unfold FormPost at HF
      generalize hr : qForm f = r at *
      have HO : Put (r.1.Ok) := ⟨HOk⟩
      clear hr HOk
      obtain ⟨R, hR⟩ : ∃ R, R = fErr m r := ⟨_, rfl⟩
      rw [← hR]
      have HR : Put (_) := ⟨hR⟩
      unfold fErr at HR
      rw [hnv] at HR
      clear hR hnv
      go_enter Tryz.func21, Tryz.ntmps21
      go_wp2_with fail
      refine HC.out.mono ?_
      rintro e w1 ⟨rfl, hb1⟩
      have HB1 : Put (_) := ⟨hb1⟩
      clear hb1 HC
      go_wp2_with fail
      refine (HF.out _).mono ?_
      rintro e w2 ⟨B, P, hB, hP, hfb, hb2, o, a0, a1, a2, b0, b1, b2, g, p, l, c, rfl, hnv2⟩
      have HNV : Put (_) := ⟨hnv2⟩
      have hf3 := hfb.alloc (.cells #[.int .u8 o, .int .i64 a0, .int .i64 a1, .int .i64 a2, .int .i64 b0, .int .i64 b1, .int .i64 b2, .int .u8 g, .slice p l c] 90)
      have c0 := hf3.c0
      have c1 := hf3.c1
      have c3 := hf3.c3
      have lP := hfb.lt
      have lB := hfb.r.lt
      have hB12 := HB1.out.trans (hb2.mono HB1.out.size)
      have hB3 := hB12.alloc hB12.size (.cells #[.int .u8 o, .int .i64 a0, .int .i64 a1, .int .i64 a2, .int .i64 b0, .int .i64 b1, .int .i64 b2, .int .u8 g, .slice p l c] 90)
      have HB3 : Put (_) := ⟨hB3⟩
      have HF3 : Put (_) := ⟨hf3⟩
      have HFB : Put (_) := ⟨hfb⟩
      have HS : Put (w.heap.size ≤ w1.heap.size ∧ w1.heap.size ≤ w2.heap.size) := ⟨HB1.out.size, hb2.size⟩
      clear hB12 hB3 hnv2 hb2 HF
      cases hq : r.2.q with
      | error p' =>
        obtain ⟨i, hile, hrc⟩ : ∃ i, i ≤ f.size ∧ RC B f i p' _ := by have := hf3.r; rw [hq] at this; exact this
        have rc2 := hrc.c2
        have h0 : ¬ ((p' : Int) < 0) := by omega
        have h0' : (0 : Int) ≤ (p' : Int) := by omega
        have hRR : R = (2, (p' : Int)) := by rw [HR.out, hq]
        subst hRR
        clear hrc hf3 hfb HR
        go_wp2_with fail
        go_region
        all_goals
          go_wp2
          go_ret2
          exact ⟨rfl, HB3.out.drew⟩
      | ok i =>
        obtain ⟨hile, hrc⟩ : i ≤ f.size ∧ RC B f i (-1) _ := by have := hf3.r; rw [hq] at this; exact this
        have rc2 := hrc.c2
        rw [hq] at HR
        by_cases hd : 0 ≤ r.2.deep
        · have hRR : R = (6, r.2.deep) := by rw [HR.out]; exact if_pos hd
          subst hRR
          clear hrc hf3 hfb HR
          go_wp2_with fail
          go_region
          all_goals
            go_wp2
            go_ret2
            exact ⟨rfl, HB3.out.drew⟩
        · have HR2 : Put (R = if 0 ≤ nmF va.length r.1 then (3, nmF va.length r.1) else if 4 < r.2.wgt then (7, 0) else (0, 0)) := ⟨by rw [HR.out]; exact if_neg hd⟩
          clear hrc hf3 hfb HR
          go_wp2_with fail
          refine (rread_any hle HQ.out).mono ?_
          rintro e w4 ⟨⟨ao, aor, cap, capr, vs, rs, bad, rfl, _, _, _, _, h3, h8, hfin⟩, hb4⟩
          have hvl : va.length = vs.length := by
            rcases hfin with ⟨p, h1, _⟩ | ⟨h1, _⟩
            · cases h1
            · obtain ⟨rfl, rfl⟩ : va = vs.map V3.ast ∧ ra = rs.map R2.ast := by simpa using h1
              simp
          rw [hvl] at HR2
          clear hfin hvl
          have hA4 := (hb4.block _ (by simp)).trans (heap_alloc_new w2 (.cells #[.int .u8 o, .int .i64 a0, .int .i64 a1, .int .i64 a2, .int .i64 b0, .int .i64 b1, .int .i64 b2, .int .u8 g, .slice p l c] 90))
          obtain ⟨⟨n0, n1, n2, n3, n4, n5, n6, n7, n8⟩, nf⟩ := blk9 hA4
          have l2 := lt_of_block hA4
          have HB4 : Put (_) := ⟨hb4⟩
          have c3' : w4.cell? ⟨P, 3, none⟩ = some (.int .i64 r.2.wgt) := by
            rw [hb4.cell (p := ⟨P, 3, none⟩) (by show P < _; simp; omega)]; exact c3
          have HB5 : Put (Below w4.heap.size w4 _) := ⟨(Below.refl _ _).alloc (Nat.le_refl _) (.cells #[.slice ao vs.length cap, .slice aor rs.length capr] 65)⟩
          have HN : Put (_) := ⟨nameless_any vs.length f ao aor cap rs.length capr r.1 w1.heap.size [.int .u8 o, .int .i64 a0, .int .i64 a1, .int .i64 a2, .int .i64 b0, .int .i64 b1, .int .i64 b2, .int .u8 g, .slice p l c] (w4.alloc (.cells #[.slice ao vs.length cap, .slice aor rs.length capr] 65)) HO.out ((HNV.out i hq).keep (Nat.le_refl _) (fun k _ h2 => by
            rw [Below.heap_alloc _ _ _ (by have := hb4.size; simp at this; omega), hb4.block k (by simp; omega), Below.heap_alloc _ _ _ h2]))⟩
          clear hA4 hb4 nf c0 c1 c3 rc2
          generalize hX : nmF vs.length r.1 = X at *
          clear hX
          go_wp2_with fail
          refine HN.out.mono ?_
          rintro e w6 ⟨rfl, hb6⟩
          have hB : Below w.heap.size w w6 := (HB3.out.trans (HB4.out.mono HB3.out.size)).trans ((HB5.out.mono (Nat.le_trans HB3.out.size HB4.out.size)).trans (hb6.mono (Nat.le_trans (Nat.le_trans HB3.out.size HB4.out.size) HB5.out.size)))
          have HB : Put (_) := ⟨hB⟩
          have d3 : w6.cell? ⟨P, 3, none⟩ = some (.int .i64 r.2.wgt) := by
            rw [hb6.cell (p := ⟨P, 3, none⟩) (by show P < _; have := HB4.out.size; simp at this ⊢; omega), HB5.out.cell (p := ⟨P, 3, none⟩) (by show P < _; have := HB4.out.size; simp at this; omega)]; exact c3'
          clear hB hb6 c3' n0 n1 n2 n3 n4 n5 n6 n7 n8 HN HB3 HB4 HB5 HNV HFB HF3
          by_cases hX0 : 0 ≤ X
          · have hRR : R = (3, X) := by rw [HR2.out, if_pos hX0]
            subst hRR
            clear HR2
            go_wp2
            go_ret2
            exact ⟨rfl, HB.out⟩
          · by_cases hw4 : 4 < r.2.wgt
            · have hRR : R = (7, 0) := by rw [HR2.out, if_neg hX0, if_pos hw4]
              subst hRR
              have hw4' : (4 : Int) < (r.2.wgt : Int) := by omega
              clear HR2
              go_wp2
              go_ret2
              exact ⟨rfl, HB.out⟩
            · have hRR : R = (0, 0) := by rw [HR2.out, if_neg hX0, if_neg hw4]
              subst hRR
              have hw4' : ¬ ((4 : Int) < (r.2.wgt : Int)) := by omega
              clear HR2
              go_wp2
              go_ret2
              exact ⟨rfl, HB.out⟩
  · have hR : Put (rForm m f = rCheck m) := ⟨by unfold rForm; rw [if_pos h0]⟩
    rw [hR.out]
    have hne : (((rCheck m).1 : Int) == 0) = false := by simp; exact h0
    have hne' : ¬ ((rCheck m).1 : Int) = 0 := by omega
    clear hR
    generalize (rCheck m).1 = a at *
    generalize (rCheck m).2 = b at *
    go_enter Tryz.func21, Tryz.ntmps21
    go_wp2_with fail
    refine HC.out.mono ?_
    rintro e w1 ⟨rfl, hb1⟩
    have HB1 : Put (_) := ⟨hb1⟩
    clear hb1 HC
    go_wp2
    go_ret2
    exact ⟨rfl, HB1.out⟩
end Go.Proofs.YtgoebckimmofoaaGreatDoor

/- The document's next, ever, meet, until, walked. Our own text. -/
namespace Go.Proofs.YtgoebckimmofoaaGreatDoor
open Go.RowKit Go.Lib
def bls (l : List Bool) : List Value := l.map Value.bool
theorem bls_at {w : World} {base : Nat} {v : Value} {l : List Bool} (h : w.ownsRow base 4 1 v l.length (bls l)) (hl : 0 < l.length) : ∃ g cap, v = .slice (some ⟨g, 0, none⟩) l.length cap ∧ base ≤ g ∧ g < w.heap.size ∧ l.length ≤ cap ∧ ∀ k (hk : k < l.length), w.cell? ⟨g, k, none⟩ = some (.bool l[k]) := by
  have e : bls l = l.flatMap (fun d => [Value.bool d]) := by
    unfold bls; rw [List.map_eq_flatMap]
  rw [e] at h
  obtain ⟨ao, cap, rfl⟩ := owned_slice' h
  obtain ⟨g, rfl, h2, h3, h4, h5⟩ := row_at (z := 1) (fun _ => rfl) h hl
  exact ⟨g, cap, rfl, h2, h3, h4, fun k hk => by have := h5 k hk 0 (by omega); simpa using this⟩
theorem made_bls (n : Nat) : (madeCells #[Value.bool false] n).toList = bls (List.replicate n false) := by
  apply List.ext_getElem
  · simp [madeCells, bls]
  · intro i h1 h2
    simp [madeCells, bls, Nat.mod_one]
section
variable {w : World}
/-- A list of truths can be read. -/
def RdB (w : World) (v : Value) (l : List Bool) : Prop := ∃ g cap, v = .slice (some ⟨g, 0, none⟩) l.length cap ∧ g < w.heap.size ∧ l.length ≤ cap ∧ ∀ k (hk : k < l.length), w.cell? ⟨g, k, none⟩ = some (.bool l[k])
theorem RdB.of {base : Nat} {v : Value} {l : List Bool} (h : w.ownsRow base 4 1 v l.length (bls l)) (hl : 0 < l.length) : RdB w v l := by
  obtain ⟨g, cap, e, _, h2, h3, h4⟩ := bls_at h hl
  exact ⟨g, cap, e, h2, h3, h4⟩
theorem RdB.below {v : Value} {l : List Bool} {w' : World} (h : RdB w v l) (hb : Below w.heap.size w w') : RdB w' v l := by
  obtain ⟨g, cap, e, h2, h3, h4⟩ := h
  exact ⟨g, cap, e, Nat.lt_of_lt_of_le h2 hb.size, h3, fun k hk => (hb.cell (p := ⟨g, k, none⟩) h2).trans (h4 k hk)⟩
def meetL (A B : List Bool) : List Bool := List.zipWith (fun a b => a && b) A B
theorem meetL_len {A B : List Bool} (h : B.length = A.length) : (meetL A B).length = A.length := by simp [meetL, h]
end
end Go.Proofs.YtgoebckimmofoaaGreatDoor

/- The document's until, walked. Our own text. -/
namespace Go.Proofs.YtgoebckimmofoaaGreatDoor
open Go.RowKit Go.Lib
/-- The truth at a place of a list. -/
def at_ (l : List Bool) (k : Nat) : Bool := l.getD k false
def untL (A B : List Bool) (loop : Nat) (wk : Bool) : List Bool := (List.range A.length).map (unt A.length loop (at_ A) (at_ B) wk A.length)
theorem untL_len {A B : List Bool} {loop : Nat} {wk : Bool} : (untL A B loop wk).length = A.length := by simp [untL]
theorem at_get {l : List Bool} {k : Nat} (h : k < l.length) : l[k] = at_ l k := by simp [at_, h]
section
variable {w : World}
end
end Go.Proofs.YtgoebckimmofoaaGreatDoor

/- The digits of a state. Our own text. -/
namespace Go.Proofs.YtgoebckimmofoaaGreatDoor
open Go.RowKit Go.Lib

/-- The digits of a text. -/
def dgs (s : ByteArray) : List Nat := s.data.toList.map (fun b => b.toNat - 48)
def topsA (va : List VA) : List Nat := va.map (fun v => v.1)
end Go.Proofs.YtgoebckimmofoaaGreatDoor

/- The document's Places, walked. Our own text. -/
namespace Go.Proofs.YtgoebckimmofoaaGreatDoor
open Go.RowKit Go.Lib
/-- A condition of a formula, with its sign. -/
def cC (s : ByteArray) (c : Tm × Tm) : C7 := ⟨c.1.1, c.1.2.1, c.1.2.2, c.2.1, c.2.2.1, c.2.2.2, (byteAt s (c.1.2.2.toNat + 1) : Int)⟩
def soS (s : ByteArray) (c : Tm × Tm) (st : ByteArray) : Bool := soC (cC s c) (dgs st)
/-- All names are names of variables. -/
def Fm.Nm (nv : Nat) : Fm → Prop
  | ⟨o, c, 0, _⟩ => o = 99 → c.1.1 < (nv : Int) ∧ c.2.1 < (nv : Int)
  | ⟨_, _, 1, k⟩ => (k 0).Nm nv
  | ⟨_, _, 2, k⟩ => (k 0).Nm nv ∧ (k 1).Nm nv
  | ⟨_, _, _ + 3, _⟩ => True
theorem nm_of (nv : Nat) : ∀ t : Fm, t.Ok → ¬ (0 ≤ nmF nv t) → t.Nm nv
  | ⟨o, c, 0, _⟩, ho, h => by
    intro h9
    unfold nmF at h
    rw [if_pos h9] at h
    rcases ho with rfl | ⟨_, hc⟩
    · omega
    · unfold unnamed at h
      obtain ⟨⟨_, _, h1⟩, _, _, h2⟩ := hc
      split at h
      · omega
      · split at h
        · omega
        · exact ⟨by omega, by omega⟩
  | ⟨_, _, 1, k⟩, ho, h => nm_of nv (k 0) ho.2 h
  | ⟨_, _, 2, k⟩, ho, h => by
    unfold nmF at h
    split at h
    · omega
    · next h1 => exact ⟨nm_of nv (k 0) ho.2.1 h1, nm_of nv (k 1) ho.2.2 h⟩
  | ⟨_, _, _ + 3, _⟩, _, _ => trivial
/-- At which places a formula holds. -/
def plF (s : ByteArray) (L : List ByteArray) (loop : Nat) : Fm → List Bool
  | ⟨o, c, 0, _⟩ => L.map (fun st => if o = 84 then true else soS s c st)
  | ⟨o, _, 1, k⟩ =>
    if o = 70 then untL (List.replicate L.length true) (plF s L loop (k 0)) loop false
    else if o = 71 then untL (plF s L loop (k 0)) (List.replicate L.length false) loop true
    else if o = 33 then (plF s L loop (k 0)).map (fun x => !x)
    else (List.range L.length).map (fun i => at_ (plF s L loop (k 0)) (nxt L.length loop i))
  | ⟨o, _, 2, k⟩ =>
    if o = 85 then untL (plF s L loop (k 0)) (plF s L loop (k 1)) loop false
    else if o = 87 then untL (plF s L loop (k 0)) (plF s L loop (k 1)) loop true
    else if o = 82 then untL (plF s L loop (k 1)) (meetL (plF s L loop (k 0)) (plF s L loop (k 1))) loop true
    else if o = 38 then meetL (plF s L loop (k 0)) (plF s L loop (k 1))
    else List.zipWith (fun a b => a || b) (plF s L loop (k 0)) (plF s L loop (k 1))
  | ⟨_, _, _ + 3, _⟩ => []
theorem plF_len (s : ByteArray) (L : List ByteArray) (loop : Nat) : ∀ t : Fm, t.Ok → (plF s L loop t).length = L.length
  | ⟨o, c, 0, _⟩, _ => by simp [plF]
  | ⟨o, _, 1, k⟩, h => by
    have h0 := plF_len s L loop (k 0) h.2
    unfold plF
    split
    · rw [untL_len]; simp
    · split
      · rw [untL_len]; exact h0
      · split
        · simpa using h0
        · simp
  | ⟨o, _, 2, k⟩, h => by
    have h0 := plF_len s L loop (k 0) h.2.1
    have h1 := plF_len s L loop (k 1) h.2.2
    unfold plF
    split
    · rw [untL_len]; exact h0
    · split
      · rw [untL_len]; exact h0
      · split
        · rw [untL_len]; exact h1
        · split
          · rw [meetL_len (by omega)]; exact h0
          · simp [h0, h1]
  | ⟨_, _, _ + 3, _⟩, h => False.elim h
section
variable {w : World} {s : ByteArray} {L : List ByteArray} {loop : Nat} {ao : Option Addr} {cap : Nat}
end
end Go.Proofs.YtgoebckimmofoaaGreatDoor

/- The document's Places, walked: signs ahead. Our own text. -/
namespace Go.Proofs.YtgoebckimmofoaaGreatDoor
open Go.RowKit Go.Lib
section
variable {w : World} {L : List ByteArray} {loop : Nat} {ao : Option Addr} {cap : Nat}
theorem RdB.len {v : Value} {l : List Bool} {N : Nat} (h : RdB w v l) (hN : l.length = N) : ∃ g c, v = .slice (some ⟨g, 0, none⟩) N c ∧ g < w.heap.size ∧ N ≤ c := by
  subst hN
  obtain ⟨g, c, e, h1, h2, _⟩ := h
  exact ⟨g, c, e, h1, h2⟩
theorem RdB.made (w : World) (N : Nat) : RdB (w.alloc (.cells (madeCells #[Value.bool false] N) 4)) (.slice (some ⟨w.heap.size, 0, none⟩) N N) (List.replicate N false) := by
  refine ⟨w.heap.size, N, by simp, by simp, by simp, fun k hk => ?_⟩
  have h := heap_alloc_new w (.cells (madeCells #[Value.bool false] N) 4)
  simp only [List.length_replicate] at hk
  have hs : (madeCells #[Value.bool false] N)[k]? = some (.bool false) := by
    have e : (madeCells #[Value.bool false] N).toList[k]? = some (.bool false) := by rw [made_bls]; simp [bls, hk]
    simpa using e
  unfold World.cell?
  rw [h]
  simp [hs]
theorem RdB.alloc {v : Value} {l : List Bool} (h : RdB w v l) (o : Obj) : RdB (w.alloc o) v l := h.below ((Below.refl _ _).alloc (Nat.le_refl _) _)
end
end Go.Proofs.YtgoebckimmofoaaGreatDoor

/- The document's Places, as a whole, and Holds. Our own text. -/
namespace Go.Proofs.YtgoebckimmofoaaGreatDoor
open Go.RowKit Go.Lib
/-- The greatest values of a good model's variables. -/
def topsM (m : ByteArray) : List Nat := match qRead m with
  | (some (va, _), _) => topsA va
  | _ => []
theorem rForm_ok {m f : ByteArray} (h : (rForm m f).1 = 0) : (rCheck m).1 = 0 ∧ f.size ≤ 60 ∧ (∃ i, (qForm f).2.q = .ok i) ∧ ¬ (0 ≤ nmF (nvM m) (qForm f).1) ∧ ¬ (0 ≤ (qForm f).2.deep) ∧ (qForm f).2.wgt ≤ 4 ∧ (rForm m f).2 = 0 := by
  unfold rForm at h ⊢
  by_cases h0 : (rCheck m).1 ≠ 0
  · rw [if_pos h0] at h; exact absurd h h0
  · rw [if_neg h0] at h ⊢
    by_cases h1 : 60 < f.size
    · rw [if_pos h1] at h; cases h
    · rw [if_neg h1] at h ⊢
      unfold fErr at h ⊢
      cases hq : (qForm f).2.q with
      | error p => rw [hq] at h; cases h
      | ok i =>
        rw [hq] at h
        simp only at h ⊢
        by_cases h2 : 0 ≤ (qForm f).2.deep
        · rw [if_pos h2] at h; cases h
        · rw [if_neg h2] at h ⊢
          by_cases h3 : 0 ≤ nmF (nvM m) (qForm f).1
          · rw [if_pos h3] at h; cases h
          · rw [if_neg h3] at h ⊢
            by_cases h4 : 4 < (qForm f).2.wgt
            · rw [if_pos h4] at h; cases h
            · rw [if_neg h4]
              exact ⟨by omega, by omega, ⟨i, rfl⟩, h3, h2, by omega, rfl⟩
/-- What Holds answers. -/
def HoldD (m f : ByteArray) (L : List ByteArray) (loop : Int) (b : Bool) (c : Nat) (p : Int) : Prop :=
  ((rForm m f).1 ≠ 0 ∧ b = false ∧ c = (rForm m f).1 ∧ p = (rForm m f).2) ∨
  ((rForm m f).1 = 0 ∧ (c ≠ 0 ∧ b = false ∧ BndR (fun s => okT s (topsM m)) L loop c p ∨
    (L.length ≤ 7000 ∧ (∀ s ∈ L, okT s (topsM m)) ∧ ∃ k : Nat, k < L.length ∧ loop = (k : Int) ∧ c = 0 ∧ p = 0 ∧ b = at_ (plF f L k (qForm f).1) 0)))
end Go.Proofs.YtgoebckimmofoaaGreatDoor

/- The code's reader of formulas and the document's: how they are held together. Our own text: no walk in it. -/
namespace Go.Proofs.YtgoebckimmofoaaGreatDoor
open Go.RowKit Go.Lib

/-- What is made of a formula, behind these parts. -/
def tr (s : ByteArray) : Fm → List Pt → G × List Pt
  | ⟨o, c, 0, _⟩, ps => (fun x _ => if o = 84 then true else cdP s c x, ps)
  | ⟨o, _, 1, k⟩, ps => bld o (fun _ _ => true) (tr s (k 0) ps).1 (tr s (k 0) ps).2
  | ⟨o, _, 2, k⟩, ps => bld o (tr s (k 0) ps).1 (tr s (k 1) (tr s (k 0) ps).2).1 (tr s (k 1) (tr s (k 0) ps).2).2
  | ⟨_, _, _ + 3, _⟩, ps => (fun _ _ => false, ps)
theorem fin_no {c : C} {l : ByteArray} (h : waitsP l c.st = false) : c.fin l = c := by
  cases c with
  | mk t opn deep st ps g sg =>
    cases st with
    | nil => rfl
    | cons e st =>
      have h' : inS l e.1 = false := h
      simp [C.fin, endP, h']
theorem fin_yes {c : C} {l : ByteArray} {e : Nat × G} {st : List (Nat × G)} (hs : c.st = e :: st) (h : inS l e.1 = true) : c.fin l = ({ c with st := st, g := (bld e.1 e.2 c.g c.ps).1, ps := (bld e.1 e.2 c.g c.ps).2 } : C).fin l := by
  cases c with
  | mk t opn deep st' ps g sg =>
    simp only at hs
    subst hs
    simp [C.fin, endP, h]

/-- How many signs of time wait. -/
def pend : List (Nat × G) → Nat
  | [] => 0
  | e :: st => wt e.1 + pend st
/-- The document's reader and the code's stand at the same place. -/
structure Rel (s : ByteArray) (x : FSt) (c : C) : Prop where
  q : x.q = .ok c.t.at_
  o : x.opn = c.opn
  d : x.deep = -1 ∧ c.deep = 0 ∨ x.deep = (c.deep : Int) ∧ 0 < c.deep
  g : x.wgt = c.ps.length + pend c.st
  le : c.t.at_ ≤ s.size
  inv : Inv c.t
  ol : c.opn ≤ c.t.at_
/-- The first name that no variable has. -/
def nmO (n : Nat) (φ : Fm) : Option (Nat × Int) := if 0 ≤ nmF n φ then some (3, nmF n φ) else none
/-- What has come of a formula that was read. -/
structure Out (s : ByteArray) (c : C) (φ : Fm) (c' : C) : Prop where
  g : c'.g = (tr s φ c.ps).1
  ps : c'.ps = (tr s φ c.ps).2
  st : c'.st = c.st
  n : c'.t.n = c.t.n
  fl : fl c'.t = (fl c.t).or (nmO c.t.n φ)
  lt : c.t.at_ < c'.t.at_
/-- A formula is read from the label 'one' on: it ends in an error, or F goes on. -/
def Ends (s : ByteArray) (r : Fm × FSt) (c : C) (F : Nat → C → Bool × C) (d : Nat) : Prop := match r.2.q with
  | .error p => ∀ k, Mz s 0 c ≤ k → ∃ cf, fRun s k 0 c = (false, cf) ∧ cf.t.at_ = p
  | .ok _ => ∃ c', Rel s r.2 c' ∧ Out s c r.1 c' ∧ ∀ k, Mz s 0 c ≤ k → ∃ k', 2 * (s.size - c'.t.at_) + d ≤ k' ∧ fRun s k 0 c = F k' c'
def F0 (s : ByteArray) (k : Nat) (c : C) : Bool × C := fRun s k 1 c
def F1 (s : ByteArray) (k : Nat) (c : C) : Bool × C := fRun s k 2 c
def F2 (s : ByteArray) (k : Nat) (c : C) : Bool × C := stA s (fRun s k) c
def F3 (s : ByteArray) (k : Nat) (c : C) : Bool × C := stB s (fRun s k) c
/-- A way that begins with some steps ahead of 'one'. -/
theorem Ends.pre {s : ByteArray} {r : Fm × FSt} {c c1 : C} {F : Nat → C → Bool × C} {d : Nat} {p : Nat} (h : Ends s r c1 F d) (hq : r.2.q = .error p) (hk : ∀ k, Mz s 0 c ≤ k → ∃ k', Mz s 0 c1 ≤ k' ∧ fRun s k 0 c = fRun s k' 0 c1) {r' : Fm × FSt} {F' : Nat → C → Bool × C} {d' : Nat} (hq' : r'.2.q = .error p) : Ends s r' c F' d' := by
  unfold Ends at h ⊢
  rw [hq] at h
  rw [hq']
  intro k hk0
  obtain ⟨k', h1, h2⟩ := hk k hk0
  rw [h2]
  exact h k' h1
theorem is_num {s : ByteArray} {i c : Nat} (h : isC s (.ok i) c = true) : ∃ k, num? s i c 0 0 = some k := isC_some h
theorem not_num {s : ByteArray} {i c : Nat} (h : isC s (.ok i) c = false) : num? s i c 0 0 = none := isC_none h
theorem byte_is {s : ByteArray} {i c : Nat} (hc : c < 256) (h : isC s (.ok i) c = true) : ∃ hl : i < s.size, s[i] = UInt8.ofNat c := by
  obtain ⟨k, hk⟩ := is_num h
  obtain ⟨hl, he⟩ := num_is hk
  exact ⟨hl, u8_is hc he⟩
theorem byte_not {s : ByteArray} {i c : Nat} (h : isC s (.ok i) c = false) (hl : i < s.size) : s[i].toNat ≠ c := num_not (not_num h) hl
theorem one_is {s : ByteArray} {i c : Nat} {l : ByteArray} (hc : c < 256) (h : isC s (.ok i) c = true) (hin : inS l c = true) : oneOf? s i l.data.toList = some c := by
  obtain ⟨hl, e⟩ := byte_is hc h
  unfold oneOf?
  rw [dif_pos hl]
  have : s[i] ∈ l.data.toList := by rw [e]; simpa [inS] using hin
  rw [if_pos this, e]
  simp; omega
theorem num_else {s : ByteArray} {i c c' : Nat} (hc : c < 256) (h : isC s (.ok i) c = true) (hne : c ≠ c') : num? s i c' 0 0 = none := by
  obtain ⟨hl, e⟩ := byte_is hc h
  unfold num?
  rw [dif_pos hl, if_neg]
  rw [e]
  simp
  omega
theorem one_else {s : ByteArray} {i : Nat} {l : ByteArray} (h : ∀ u ∈ l.data.toList, isC s (.ok i) u.toNat = false) : oneOf? s i l.data.toList = none := by
  unfold oneOf?
  split
  · next hl =>
    rw [if_neg]
    intro hm
    exact byte_not (h _ hm) hl rfl
  · rfl
/-- A sign, and what is left behind it. -/
theorem step_push {s : ByteArray} {c : C} {o : Nat} (hle : c.t.at_ < s.size) (h : ∀ k, fRun s (k + 1) 0 c = fRun s k 3 (c.sign o)) : ∀ k, Mz s 0 c ≤ k → ∃ k', Mz s 0 (c.sign o).push ≤ k' ∧ fRun s k 0 c = fRun s k' 0 (c.sign o).push := by
  intro k hk
  unfold Mz at *
  obtain ⟨k', rfl⟩ : ∃ k', k = k' + 2 := ⟨k - 2, by simp at hk; omega⟩
  refine ⟨k', ?_, ?_⟩
  · show 2 * (s.size - (c.t.at_ + 1)) + 1 + 0 % 2 ≤ k'
    omega
  · rw [h (k' + 1)]; rfl
end Go.Proofs.YtgoebckimmofoaaGreatDoor

/- What a formula says of states without an end, and the document's places. Our own text. -/
namespace Go.Proofs.YtgoebckimmofoaaGreatDoor
open Go.RowKit Go.Lib
/-- The place of a lasso at a time. -/
def plc (n loop : Nat) : Nat → Nat
  | 0 => 0
  | t + 1 => nxt n loop (plc n loop t)
theorem plc_lt {n loop : Nat} (h0 : 0 < n) (hl : loop < n) : ∀ t, plc n loop t < n
  | 0 => h0
  | t + 1 => by unfold plc nxt; split <;> omega
section
variable {n loop : Nat} {a b : Nat → Bool} {wk : Bool}
theorem unt_all (t : Nat) : ∀ f, (∀ j, t ≤ j → b (plc n loop j) = false ∧ a (plc n loop j) = true) → unt n loop a b wk f (plc n loop t) = wk := by
  intro f
  induction f generalizing t with
  | zero => intro h; rw [unt0, (h t (Nat.le_refl _)).1]; rfl
  | succ f ih =>
    intro h
    rw [unt1, (h t (Nat.le_refl _)).1, (h t (Nat.le_refl _)).2]
    exact ih (t + 1) (fun j hj => h j (by omega))
theorem unt_until (h0 : 0 < n) (hl : loop < n) : ∀ (d t : Nat), b (plc n loop (t + d)) = true → (∀ i, t ≤ i → i < t + d → a (plc n loop i) = true) → unt n loop a b wk n (plc n loop t) = true
  | 0, t, hb, _ => by rw [unt_step hl (plc_lt h0 hl t), show plc n loop t = plc n loop (t + 0) from rfl, hb]; rfl
  | d + 1, t, hb, ha => by
    rw [unt_step hl (plc_lt h0 hl t), ha t (Nat.le_refl _) (by omega)]
    have := unt_until h0 hl d (t + 1) (by rw [show t + 1 + d = t + (d + 1) by omega]; exact hb) (fun i h1 h2 => ha i (by omega) (by omega))
    have e : plc n loop (t + 1) = nxt n loop (plc n loop t) := rfl
    rw [e] at this
    rw [this]; simp
/-- On a lasso, what step by step says. -/
theorem unt_sem (h0 : 0 < n) (hl : loop < n) (t : Nat) : unt n loop a b wk n (plc n loop t) = true ↔
    (∃ j, t ≤ j ∧ b (plc n loop j) = true ∧ ∀ i, t ≤ i → i < j → a (plc n loop i) = true) ∨ (wk = true ∧ ∀ j, t ≤ j → a (plc n loop j) = true) := by
  constructor
  · intro h
    by_cases hu : ∃ j, t ≤ j ∧ b (plc n loop j) = true ∧ ∀ i, t ≤ i → i < j → a (plc n loop i) = true
    · exact .inl hu
    · have key : ∀ d, unt n loop a b wk n (plc n loop (t + d)) = true ∧ ∀ i, t ≤ i → i < t + d → b (plc n loop i) = false ∧ a (plc n loop i) = true := by
        intro d
        induction d with
        | zero => exact ⟨h, fun i h1 h2 => by omega⟩
        | succ d ih =>
          obtain ⟨h1, h2⟩ := ih
          have hb : b (plc n loop (t + d)) = false := by
            cases hb : b (plc n loop (t + d)) with
            | false => rfl
            | true => exact absurd ⟨t + d, by omega, hb, fun i h3 h4 => (h2 i h3 h4).2⟩ hu
          rw [unt_step hl (plc_lt h0 hl _), hb] at h1
          simp only [Bool.false_or, Bool.and_eq_true] at h1
          refine ⟨h1.2, fun i h3 h4 => ?_⟩
          by_cases e : i = t + d
          · subst e; exact ⟨hb, h1.1⟩
          · exact h2 i h3 (by omega)
      have hall : ∀ j, t ≤ j → b (plc n loop j) = false ∧ a (plc n loop j) = true := fun j hj => (key (j - t + 1)).2 j hj (by omega)
      rw [unt_all t n hall] at h
      exact .inr ⟨h, fun j hj => (hall j hj).2⟩
  · rintro (⟨j, h1, h2, h3⟩ | ⟨h1, h2⟩)
    · obtain ⟨d, rfl⟩ : ∃ d, j = t + d := ⟨j - t, by omega⟩
      exact unt_until h0 hl d t h2 h3
    · by_cases hb : ∃ d, b (plc n loop (t + d)) = true
      · obtain ⟨d, hd⟩ := hb
        exact unt_until h0 hl d t hd (fun i h3 _ => h2 i h3)
      · rw [unt_all t n (fun j hj => ⟨by
          cases e : b (plc n loop j) with
          | false => rfl
          | true => exact absurd ⟨j - t, by rw [show t + (j - t) = j by omega]; exact e⟩ hb, h2 j hj⟩)]
        exact h1
end
/-- A formula holds at a time; S: which conditions do. -/
def sm (S : Nat → (Tm × Tm) → Bool) : Fm → Nat → Prop
  | ⟨o, c, 0, _⟩, t => o = 84 ∨ S t c = true
  | ⟨o, _, 1, k⟩, t =>
    if o = 70 then ∃ j, t ≤ j ∧ sm S (k 0) j
    else if o = 71 then ∀ j, t ≤ j → sm S (k 0) j
    else if o = 33 then ¬ sm S (k 0) t
    else sm S (k 0) (t + 1)
  | ⟨o, _, 2, k⟩, t =>
    if o = 85 then ∃ j, t ≤ j ∧ sm S (k 1) j ∧ ∀ i, t ≤ i → i < j → sm S (k 0) i
    else if o = 87 then (∃ j, t ≤ j ∧ sm S (k 1) j ∧ ∀ i, t ≤ i → i < j → sm S (k 0) i) ∨ ∀ j, t ≤ j → sm S (k 0) j
    else if o = 82 then (∃ j, t ≤ j ∧ (sm S (k 0) j ∧ sm S (k 1) j) ∧ ∀ i, t ≤ i → i < j → sm S (k 1) i) ∨ ∀ j, t ≤ j → sm S (k 1) j
    else if o = 38 then sm S (k 0) t ∧ sm S (k 1) t
    else sm S (k 0) t ∨ sm S (k 1) t
  | ⟨_, _, _ + 3, _⟩, _ => False
theorem at_lt {l : List Bool} {k : Nat} (h : k < l.length) : at_ l k = l[k] := (at_get h).symm
theorem at_untL {A B : List Bool} {loop : Nat} {wk : Bool} {k : Nat} (h : k < A.length) : at_ (untL A B loop wk) k = unt A.length loop (at_ A) (at_ B) wk A.length k := by
  rw [at_lt (by rw [untL_len]; exact h)]
  simp [untL]
theorem at_rep {n k : Nat} {x : Bool} (h : k < n) : at_ (List.replicate n x) k = x := by
  rw [at_lt (by simpa using h)]; simp
theorem at_meet {A B : List Bool} {k : Nat} (h : k < A.length) (h' : k < B.length) : at_ (meetL A B) k = (at_ A k && at_ B k) := by
  rw [at_lt (by simp [meetL]; omega), at_lt h, at_lt h']; simp [meetL]
/-- The document's places say what the words say. -/
theorem plF_sem (s : ByteArray) (L : List ByteArray) (loop : Nat) (hl : loop < L.length) : ∀ (φ : Fm) (_ : φ.Ok) (t : Nat),
    at_ (plF s L loop φ) (plc L.length loop t) = true ↔ sm (fun t c => soS s c (L.getD (plc L.length loop t) default)) φ t
  | ⟨o, c, 0, k⟩, ho, t => by
    have h := plc_lt (Nat.lt_of_le_of_lt (Nat.zero_le _) hl) hl t
    have e : at_ (plF s L loop ⟨o, c, 0, k⟩) (plc L.length loop t) = if o = 84 then true else soS s c L[plc L.length loop t] := by
      rw [at_lt (by rw [plF_len _ _ _ _ ho]; exact h)]; simp [plF]
    rw [e]
    show _ ↔ o = 84 ∨ soS s c (L.getD (plc L.length loop t) default) = true
    have e2 : L.getD (plc L.length loop t) default = L[plc L.length loop t] := by simp [h]
    rw [e2]
    by_cases ho : o = 84 <;> simp [ho]
  | ⟨o, c, 1, k⟩, ho, t => by
    have h0 : 0 < L.length := Nat.lt_of_le_of_lt (Nat.zero_le _) hl
    have hp := fun t => plc_lt h0 hl t
    have hlen := plF_len s L loop (k 0) ho.2
    have ih := plF_sem s L loop hl (k 0) ho.2
    unfold plF sm
    by_cases h1 : o = 70
    · rw [if_pos h1, if_pos h1, at_untL (by simpa using hp t)]
      simp only [List.length_replicate]
      rw [unt_sem h0 hl]
      constructor
      · rintro (⟨j, h2, h3, _⟩ | ⟨h2, _⟩)
        · exact ⟨j, h2, (ih j).1 h3⟩
        · cases h2
      · rintro ⟨j, h2, h3⟩
        exact .inl ⟨j, h2, (ih j).2 h3, fun i _ _ => at_rep (hp i)⟩
    · rw [if_neg h1, if_neg h1]
      by_cases h2 : o = 71
      · rw [if_pos h2, if_pos h2, at_untL (by rw [hlen]; exact hp t), hlen, unt_sem h0 hl]
        constructor
        · rintro (⟨j, _, h3, _⟩ | ⟨_, h4⟩)
          · rw [at_rep (hp j)] at h3; cases h3
          · exact fun j hj => (ih j).1 (h4 j hj)
        · intro h; exact .inr ⟨rfl, fun j hj => (ih j).2 (h j hj)⟩
      · rw [if_neg h2, if_neg h2]
        by_cases h3 : o = 33
        · rw [if_pos h3, if_pos h3, at_lt (by simpa [hlen] using hp t), ← ih t, at_lt (by rw [hlen]; exact hp t)]
          simp
        · rw [if_neg h3, if_neg h3, at_lt (by simpa using hp t), ← ih (t + 1)]
          simp [plc]
  | ⟨o, c, 2, k⟩, ho, t => by
    have h0 : 0 < L.length := Nat.lt_of_le_of_lt (Nat.zero_le _) hl
    have hp := fun t => plc_lt h0 hl t
    have hlen := plF_len s L loop (k 0) ho.2.1
    have hlen1 := plF_len s L loop (k 1) ho.2.2
    have ih := plF_sem s L loop hl (k 0) ho.2.1
    have ih1 := plF_sem s L loop hl (k 1) ho.2.2
    unfold plF sm
    by_cases h1 : o = 85
    · rw [if_pos h1, if_pos h1, at_untL (by rw [hlen]; exact hp t), hlen, unt_sem h0 hl]
      simp only [ih, ih1]
      constructor
      · rintro (h | ⟨h, _⟩)
        · exact h
        · cases h
      · exact fun h => .inl h
    · rw [if_neg h1, if_neg h1]
      by_cases h2 : o = 87
      · rw [if_pos h2, if_pos h2, at_untL (by rw [hlen]; exact hp t), hlen, unt_sem h0 hl]
        simp only [ih, ih1, true_and]
      · rw [if_neg h2, if_neg h2]
        by_cases h3 : o = 82
        · rw [if_pos h3, if_pos h3, at_untL (by rw [hlen1]; exact hp t), hlen1, unt_sem h0 hl]
          have hm : ∀ j, at_ (meetL (plF s L loop (k 0)) (plF s L loop (k 1))) (plc L.length loop j) = true ↔ sm (fun t c => soS s c (L.getD (plc L.length loop t) default)) (k 0) j ∧ sm (fun t c => soS s c (L.getD (plc L.length loop t) default)) (k 1) j := fun j => by
            rw [at_meet (by rw [hlen]; exact hp j) (by rw [hlen1]; exact hp j), Bool.and_eq_true, ih, ih1]
          simp only [hm, ih1, true_and]
        · rw [if_neg h3, if_neg h3]
          by_cases h4 : o = 38
          · rw [if_pos h4, if_pos h4, at_meet (by rw [hlen]; exact hp t) (by rw [hlen1]; exact hp t), Bool.and_eq_true, ih, ih1]
          · rw [if_neg h4, if_neg h4, at_lt (by simp [hlen, hlen1]; exact hp t), ← ih, ← ih1, at_lt (by rw [hlen]; exact hp t), at_lt (by rw [hlen1]; exact hp t)]
            simp
  | ⟨_, _, _ + 3, _⟩, ho, _ => False.elim ho
end Go.Proofs.YtgoebckimmofoaaGreatDoor
