import Derived.Test.YtgoebckimmofoaaDoorP12
import Derived.Deep.RegionHeld3
import Derived.Test.YtgoebckimmofoaaDoorP9
import Derived.Test.YtgoebckimmofoaaDoorP1
import Derived.SizedLaws
import Derived.SliceStrings
import Derived.Carry
import Derived.Test.YtgoebckimmofoaaDoorP10
import Derived.Test.YtgoebckimmofoaaDoorP11
/- The document's Bound: what is wrong with a lasso. Our own text. -/
namespace Go.Proofs.YtgoebckimmofoaaDoor
open Go.RowKit Go.Lib

/-- A list of texts that lies somewhere. -/
def Reads (w : World) (v : Value) (L : List ByteArray) : Prop :=
  ∃ (ao : Option Addr) (cap : Nat), v = .slice ao L.length cap ∧ (0 < L.length → ∃ b o, ao = some ⟨b, o, none⟩ ∧ b < w.heap.size ∧ ∀ i (h : i < L.length), w.cell? ⟨b, o + i, none⟩ = some (.string L[i]))
theorem Reads.below {w w' : World} {v : Value} {L : List ByteArray} (h : Reads w v L) (hb : Below w.heap.size w w') : Reads w' v L := by
  obtain ⟨ao, cap, rfl, hc⟩ := h
  refine ⟨ao, cap, rfl, fun hp => ?_⟩
  obtain ⟨b, o, rfl, hl, hcell⟩ := hc hp
  exact ⟨b, o, rfl, Nat.lt_of_lt_of_le hl hb.size, fun i hi => (hb.cell (p := ⟨b, o + i, none⟩) hl).trans (hcell i hi)⟩

/-- What is wrong with a lasso, if its states are those that are ok. -/
def BndR (ok : ByteArray → Prop) (L : List ByteArray) (loop : Int) (c : Nat) (p : Int) : Prop :=
  (7000 < L.length ∧ c = 1 ∧ p = 0) ∨
  (L.length ≤ 7000 ∧ ∃ (i : Nat) (hi : i < L.length), ¬ ok L[i] ∧ (∀ j (hj : j < i), ok (L[j]'(Nat.lt_trans hj hi))) ∧ c = 8 ∧ p = (i : Int)) ∨
  (L.length ≤ 7000 ∧ (∀ s ∈ L, ok s) ∧ ¬ (0 ≤ loop ∧ loop < (L.length : Int)) ∧ c = 9 ∧ p = 0) ∨
  (L.length ≤ 7000 ∧ (∀ s ∈ L, ok s) ∧ 0 ≤ loop ∧ loop < (L.length : Int) ∧ c = 0 ∧ p = 0)

theorem BndR.uniq {ok : ByteArray → Prop} {L : List ByteArray} {loop : Int} {c c' : Nat} {p p' : Int} (h : BndR ok L loop c p) (h' : BndR ok L loop c' p') : c = c' ∧ p = p' := by
  rcases h with ⟨h7, rfl, rfl⟩ | ⟨h7, i, hi, hno, hok, rfl, rfl⟩ | ⟨h7, hok, hl, rfl, rfl⟩ | ⟨h7, hok, hl, hl2, rfl, rfl⟩ <;>
    rcases h' with ⟨h7', rfl, rfl⟩ | ⟨h7', i', hi', hno', hok', rfl, rfl⟩ | ⟨h7', hok', hl', rfl, rfl⟩ | ⟨h7', hok', hl', hl2', rfl, rfl⟩
  all_goals first
    | exact ⟨rfl, rfl⟩
    | omega
    | exact absurd (hok' _ (List.getElem_mem hi)) hno
    | exact absurd (hok _ (List.getElem_mem hi')) hno'
    | skip
  · refine ⟨rfl, ?_⟩
    by_cases e : i < i'
    · exact absurd (hok' i e) hno
    · by_cases e2 : i' < i
      · exact absurd (hok i' e2) hno'
      · have : i = i' := by omega
        rw [this]
section
variable {w : World}
set_option maxRecDepth 100000 in
set_option maxHeartbeats 1600000 in
theorem bound_any (ao aor : Option Addr) (cap nr capr base : Nat) (vs : List V3) (h3 : vs.length ≤ 3) (L : List ByteArray) (hL : ∀ s ∈ L, s.size ≤ maxLen) (hlen : L.length ≤ 9223372036854775807) (loop : Int) (v : Value) (hr : Reads w v L)
    (hv : w.ownsRow base 88 3 (.slice ao vs.length cap) vs.length (vs.flatMap V3.cells)) :
    Calls Tryd.prog 22 #[.agg #[.slice ao vs.length cap, .slice aor nr capr], .agg #[v, .int .i64 loop]] w fun e w' => (∃ (c : Nat) (p : Int), e = .returned (.tuple #[.int .i64 c, .int .i64 p]) ∧ BndR (fun s => okT s (vs.map V3.top)) L loop c p) ∧ Below w.heap.size w w' := by
  obtain ⟨aoL, capL, rfl, hcell⟩ := hr
  have HC : Put (_) := ⟨hcell⟩
  have HL : Put (_) := ⟨hL⟩
  have HV : Put (_) := ⟨hv⟩
  obtain ⟨w1, hw1⟩ : ∃ w1, w1 = (w.alloc (.cells #[.slice ao vs.length cap, .slice aor nr capr] 48)).alloc (.cells #[.slice aoL L.length capL, .int .i64 loop] 35) := ⟨_, rfl⟩
  have hB1 : Below w.heap.size w w1 := by rw [hw1]; exact ((Below.refl _ _).alloc (Nat.le_refl _) _).alloc (by simp) _
  have bx1 : w1.heap[w.heap.size]? = some (.cells #[.slice ao vs.length cap, .slice aor nr capr] 48 (0, 0)) := by
    rw [hw1]; exact (Below.heap_alloc _ _ _ (by simp)).trans (heap_alloc_new w _)
  have bx2 : w1.heap[w.heap.size + 1]? = some (.cells #[.slice aoL L.length capL, .int .i64 loop] 35 (0, 0)) := by
    rw [hw1]
    have := heap_alloc_new (w.alloc (.cells #[.slice ao vs.length cap, .slice aor nr capr] 48)) (.cells #[.slice aoL L.length capL, .int .i64 loop] 35)
    simpa using this
  have q0 := two_cell0 bx2
  have q1 := two_cell1 bx2
  have HX : Put (_ ∧ _ ∧ _) := ⟨hB1, bx1, bx2⟩
  have HW : Put (w1 = _) := ⟨hw1⟩
  clear hcell hL hv bx1 bx2 hB1
  by_cases h7 : 7000 < L.length
  · have h7' : (7000 : Int) < (L.length : Int) := by omega
    have FIN : Put (BndR (fun s => okT s (vs.map V3.top)) L loop 1 0) := ⟨.inl ⟨h7, rfl, rfl⟩⟩
    rw [hw1] at q0
    clear hw1
    go_enter Tryd.func22, Tryd.ntmps22
    go_wp2
    go_ret2
    exact ⟨⟨1, 0, rfl, FIN.out⟩, by rw [← HW.out]; exact HX.out.1⟩
  · have h7' : ¬ (7000 : Int) < (L.length : Int) := by omega
    have hw1' := hw1.symm
    clear hw1
    go_enter Tryd.func22, Tryd.ntmps22
    go_wp2_with fail
    go_loopg [6] L.length (fun gk iv wr => ∃ i : Nat, iv = .int .i64 i ∧ i + gk = L.length ∧ Below w1.heap.size w1 wr ∧ Put (∀ j (_ : j < i) (h : j < L.length), okT L[j] (vs.map V3.top)))
    case atStart => exact ⟨0, rfl, by omega, Below.refl _ _, ⟨fun j hj => absurd hj (Nat.not_lt_zero _)⟩⟩
    case round =>
      clear hw1' q0 q1
      obtain ⟨i, rfl, hik, hBr, HI⟩ := hrel
      have hsr := hBr.size
      have l1 := lt_of_block HX.out.2.1
      have l2 := lt_of_block HX.out.2.2
      have br1 := (hBr.block _ l1).trans HX.out.2.1
      have br2 := (hBr.block _ l2).trans HX.out.2.2
      have p0 := two_cell0 br1
      have p1 := two_cell1 br1
      have q0 := two_cell0 br2
      have q1 := two_cell1 br2
      have hBw : Below w.heap.size w wr := HX.out.1.trans (hBr.mono HX.out.1.size)
      by_cases hlt : i < L.length
      · have hlt' : (i : Int) < (L.length : Int) := by omega
        have k0 : (0 : Int) ≤ (i : Int) := by omega
        obtain ⟨g', rfl⟩ : ∃ g', gk = g' + 1 := ⟨gk - 1, by omega⟩
        obtain ⟨b, o, rfl, hbl, hcell⟩ := HC.out (by omega)
        have q := (hBw.cell (p := ⟨b, o + i, none⟩) hbl).trans (hcell i hlt)
        have HST : Put (∀ W, Below w.heap.size w W → Calls Tryd.prog 39 #[.agg #[.slice ao vs.length cap, .slice aor nr capr], .string L[i]] W _) := ⟨fun W hW => rstate_any ao aor cap nr capr base vs L[i] h3 (HL.out _ (List.getElem_mem hlt)) (hW.ownsRow' HV.out)⟩
        have hd : Below w.heap.size w wr.drew := hBw.drew
        have hbr : b < wr.heap.size := Nat.lt_of_lt_of_le hbl hBw.size
        have l1r := lt_of_block br1
        have l2r := lt_of_block br2
        clear br1 br2 hcell
        go_wp2_with fail
        go_region_held3 (fun w' => w'.cell? ⟨w.heap.size, 0, none⟩ = some (.slice ao vs.length cap) ∧ w'.cell? ⟨w.heap.size, 1, none⟩ = some (.slice aor nr capr) ∧ w'.cell? ⟨w.heap.size + 1, 0, none⟩ = some (.slice (some ⟨b, o, none⟩) L.length capL) ∧ w'.cell? ⟨b, o + i, none⟩ = some (.string L[i]))
          (first
            | exact ⟨p0, p1, q0, q⟩
            | exact ⟨(hb3.cell (p := ⟨w.heap.size, 0, none⟩) l1r).trans p0, (hb3.cell (p := ⟨w.heap.size, 1, none⟩) l1r).trans p1, (hb3.cell (p := ⟨w.heap.size + 1, 0, none⟩) l2r).trans q0, (hb3.cell (p := ⟨b, o + i, none⟩) hbr).trans q⟩
            | go_keep)
          (first
            | (go_at_call 39; refine (HST.out wr.drew hd).mono ?_; rintro e w3 ⟨⟨y, bb, rfl, hbb⟩, hb3'⟩; have hb3 : Below wr.heap.size wr w3 := ⟨hb3'.os, hb3'.tape, hb3'.output, hb3'.size, hb3'.block⟩))
        all_goals
          have hB3 : Below w1.heap.size w1 w3 := hBr.trans (hb3.mono hsr)
          have HBB : Put (_) := ⟨hbb⟩
          clear hbb hb3 hBr HST
          cases bb with
          | true =>
            have HI' : Put (∀ j (_ : j < i + 1) (h : j < L.length), okT L[j] (vs.map V3.top)) := ⟨fun j hj h => by
              by_cases e : j < i
              · exact HI.out j e h
              · obtain rfl : j = i := by omega
                exact HBB.out.1 rfl⟩
            clear HBB HI
            go_wp2
            go_roundg g'
            case measure => exact Nat.lt_succ_self _
            case rel => exact ⟨i + 1, by go_num, by omega, hB3, HI'⟩
          | false =>
            have FIN : Put (BndR (fun s => okT s (vs.map V3.top)) L loop 8 (i : Int)) := ⟨.inr (.inl ⟨by omega, i, hlt, (fun h => by have := HBB.out.2 h; cases this), fun j hj => HI.out j hj (by omega), rfl, rfl⟩)⟩
            have HB : Put (Below w.heap.size w w3) := ⟨HX.out.1.trans (hB3.mono HX.out.1.size)⟩
            clear HBB HI hB3
            go_wp2
            go_ret2
            exact ⟨⟨8, _, rfl, FIN.out⟩, HB.out⟩
      · obtain rfl : i = L.length := by omega
        have hlt' : ¬ ((L.length : Int) < (L.length : Int)) := by omega
        have hok : ∀ s ∈ L, okT s (vs.map V3.top) := fun s hs => by
          obtain ⟨k, hk, rfl⟩ := List.getElem_of_mem hs
          exact HI.out k hk hk
        have HB : Put (_) := ⟨hBw⟩
        by_cases hlo : loop < 0
        · have FIN : Put (BndR (fun s => okT s (vs.map V3.top)) L loop 9 0) := ⟨.inr (.inr (.inl ⟨by omega, hok, by omega, rfl, rfl⟩))⟩
          clear hok HI hBr hBw br1 br2
          go_wp2
          go_ret2
          exact ⟨⟨9, 0, rfl, FIN.out⟩, HB.out⟩
        · by_cases hhi : (L.length : Int) ≤ loop
          · have FIN : Put (BndR (fun s => okT s (vs.map V3.top)) L loop 9 0) := ⟨.inr (.inr (.inl ⟨by omega, hok, by omega, rfl, rfl⟩))⟩
            clear hok HI hBr hBw br1 br2
            go_wp2
            go_ret2
            exact ⟨⟨9, 0, rfl, FIN.out⟩, HB.out⟩
          · have FIN : Put (BndR (fun s => okT s (vs.map V3.top)) L loop 0 0) := ⟨.inr (.inr (.inr ⟨by omega, hok, by omega, by omega, rfl, rfl⟩))⟩
            clear hok HI hBr hBw br1 br2
            go_wp2
            go_ret2
            exact ⟨⟨0, 0, rfl, FIN.out⟩, HB.out⟩
end
end Go.Proofs.YtgoebckimmofoaaDoor

/- The law's own helpers: two lists of texts, spoiling one. Our own text. -/
namespace Go.Proofs.YtgoebckimmofoaaDoor
open Go.RowKit

def bys (l : List ByteArray) : List Value := l.map Value.string
theorem strs_bys (l : List (List Nat)) : strs l = bys (l.map txtL) := by simp [strs, bys]
theorem bys_at {w : World} {base : Nat} {v : Value} {l : List ByteArray} (h : w.ownsRow base 9 1 v l.length (bys l)) (hl : 0 < l.length) : ∃ g cap, v = .slice (some ⟨g, 0, none⟩) l.length cap ∧ base ≤ g ∧ g < w.heap.size ∧ l.length ≤ cap ∧ ∀ k (hk : k < l.length), w.cell? ⟨g, k, none⟩ = some (.string l[k]) := by
  have e : bys l = l.flatMap (fun d => [Value.string d]) := by
    unfold bys; rw [List.map_eq_flatMap]
  rw [e] at h
  obtain ⟨ao, cap, rfl⟩ := owned_slice' h
  obtain ⟨g, rfl, h2, h3, h4, h5⟩ := row_at (z := 1) (fun _ => rfl) h hl
  exact ⟨g, cap, rfl, h2, h3, h4, fun k hk => by have := h5 k hk 0 (by omega); simpa using this⟩

section
variable {w : World}
set_option maxRecDepth 100000 in
set_option maxHeartbeats 1600000 in
theorem same_any (b1 b2 : Nat) (va vb : Value) (l : List ByteArray) (hl : l.length ≤ 9223372036854775807) (ha : w.ownsRow b1 9 1 va l.length (bys l)) (hb : w.ownsRow b2 9 1 vb l.length (bys l)) :
    Calls Tryd.prog 12 #[va, vb] w fun e w' => e = .returned (.bool true) ∧ Below w.heap.size w w' := by
  obtain ⟨aoa, capa, rfl⟩ := owned_slice' ha
  obtain ⟨aob, capb, rfl⟩ := owned_slice' hb
  have HA : Put (_) := ⟨ha⟩
  have HB : Put (_) := ⟨hb⟩
  clear ha hb
  go_enter Tryd.func12, Tryd.ntmps12
  go_wp2_with fail
  go_loopg [5] l.length (fun gk iv wr => ∃ i m : Nat, iv = .int .i64 i ∧ i + gk = l.length ∧ wr = w.drewN m)
  case atStart => exact ⟨0, 0, rfl, by omega, rfl⟩
  case round =>
    obtain ⟨i, m, rfl, hik, rfl⟩ := hrel
    by_cases hlt : i < l.length
    · have hlt' : (i : Int) < (l.length : Int) := by omega
      have i0 : (0 : Int) ≤ (i : Int) := by omega
      obtain ⟨g', rfl⟩ : ∃ g', gk = g' + 1 := ⟨gk - 1, by omega⟩
      obtain ⟨ga, ca, hea, _, _, _, hca⟩ := bys_at HA.out (by omega)
      obtain ⟨gb, cb, heb, _, _, _, hcb⟩ := bys_at HB.out (by omega)
      obtain ⟨rfl, rfl⟩ : aoa = some ⟨ga, 0, none⟩ ∧ capa = ca := by simpa using hea
      obtain ⟨rfl, rfl⟩ : aob = some ⟨gb, 0, none⟩ ∧ capb = cb := by simpa using heb
      have c1 := hca i hlt
      have c2 := hcb i hlt
      generalize l[i] = s at c1 c2
      clear hca hcb hea heb
      go_wp2_with fail
      go_quiet (fail)
      go_wp2
      go_roundg g'
      case measure => exact Nat.lt_succ_self _
      case rel => exact ⟨i + 1, _, by go_num, by omega, rfl⟩
    · obtain rfl : i = l.length := by omega
      have hlt' : ¬ ((l.length : Int) < (l.length : Int)) := by omega
      go_wp2
      go_ret
      exact ⟨rfl, below_drewN (Below.refl _ _) _⟩
end
end Go.Proofs.YtgoebckimmofoaaDoor

namespace Go.Proofs.YtgoebckimmofoaaDoor
open Go.RowKit

/-- All blocks but that of a value's row are as they were. -/
def ExV (v : Value) (w w' : World) : Prop := ∃ g, (v.ownBlock = none ∨ v.ownBlock = some g) ∧ Ex g w w' ∧ (v.ownBlock = none → Below w.heap.size w w')
section
variable {w : World}
end
end Go.Proofs.YtgoebckimmofoaaDoor

/- The law's own helpers, of lists that are handed in: copied, sameTexts. Our own text. -/
namespace Go.Proofs.YtgoebckimmofoaaDoor
open Go.RowKit Go.Lib

theorem Reads.cell {w : World} {ao : Option Addr} {n cap : Nat} {L : List ByteArray} (h : Reads w (.slice ao n cap) L) : n = L.length ∧ (0 < L.length → ∃ b o, ao = some ⟨b, o, none⟩ ∧ b < w.heap.size ∧ ∀ i (h : i < L.length), w.cell? ⟨b, o + i, none⟩ = some (.string L[i])) := by
  obtain ⟨ao', cap', e, hc⟩ := h
  obtain ⟨rfl, rfl, rfl⟩ : ao = ao' ∧ n = L.length ∧ cap = cap' := by simpa using e
  exact ⟨rfl, hc⟩
theorem Reads.of_owns {w : World} {b : Nat} {v : Value} {L : List ByteArray} (h : w.ownsRow b 9 1 v L.length (bys L)) : Reads w v L := by
  obtain ⟨ao, cap, rfl⟩ := owned_slice' h
  refine ⟨ao, cap, rfl, fun hl => ?_⟩
  obtain ⟨g, cap', e, _, hg, _, hc⟩ := bys_at h hl
  obtain ⟨rfl, rfl⟩ : ao = some ⟨g, 0, none⟩ ∧ cap = cap' := by simpa using e
  exact ⟨g, 0, rfl, hg, fun i hi => by have := hc i hi; simpa using this⟩
theorem bys_snoc (L : List ByteArray) (i : Nat) (h : i < L.length) : bys (L.take (i + 1)) = bys (L.take i) ++ [.string L[i]] := by
  have e : L.take (i + 1) = L.take i ++ [L[i]] := by rw [List.take_add_one, List.getElem?_eq_getElem h]; rfl
  rw [e]; unfold bys; rw [List.map_append]; rfl

section
variable {w : World}
set_option maxRecDepth 100000 in
set_option maxHeartbeats 1600000 in
theorem sameR_any (va vb : Value) (l : List ByteArray) (hl : l.length ≤ 9223372036854775807) (ha : Reads w va l) (hb : Reads w vb l) :
    Calls Tryd.prog 12 #[va, vb] w fun e w' => e = .returned (.bool true) ∧ Below w.heap.size w w' := by
  obtain ⟨aoa, capa, rfl, ha⟩ := ha
  obtain ⟨aob, capb, rfl, hb⟩ := hb
  have HA : Put (_) := ⟨ha⟩
  have HB : Put (_) := ⟨hb⟩
  clear ha hb
  go_enter Tryd.func12, Tryd.ntmps12
  go_wp2_with fail
  go_loopg [5] l.length (fun gk iv wr => ∃ i m : Nat, iv = .int .i64 i ∧ i + gk = l.length ∧ wr = w.drewN m)
  case atStart => exact ⟨0, 0, rfl, by omega, rfl⟩
  case round =>
    obtain ⟨i, m, rfl, hik, rfl⟩ := hrel
    by_cases hlt : i < l.length
    · have hlt' : (i : Int) < (l.length : Int) := by omega
      have i0 : (0 : Int) ≤ (i : Int) := by omega
      obtain ⟨g', rfl⟩ : ∃ g', gk = g' + 1 := ⟨gk - 1, by omega⟩
      obtain ⟨ba, oa, rfl, _, hca⟩ := HA.out (by omega)
      obtain ⟨bb, ob, rfl, _, hcb⟩ := HB.out (by omega)
      have c1 := hca i hlt
      have c2 := hcb i hlt
      generalize l[i] = s at c1 c2
      clear hca hcb
      go_wp2_with fail
      go_quiet (fail)
      go_wp2
      go_roundg g'
      case measure => exact Nat.lt_succ_self _
      case rel => exact ⟨i + 1, _, by go_num, by omega, rfl⟩
    · obtain rfl : i = l.length := by omega
      have hlt' : ¬ ((l.length : Int) < (l.length : Int)) := by omega
      go_wp2
      go_ret
      exact ⟨rfl, below_drewN (Below.refl _ _) _⟩

set_option maxRecDepth 100000 in
set_option maxHeartbeats 1600000 in
theorem copied_any (va : Value) (L : List ByteArray) (hl : L.length * 16 ≤ 140737488355328) (ha : Reads w va L) :
    Calls Tryd.prog 9 #[va] w fun e w' => (∃ v, e = .returned v ∧ w'.ownsRow w.heap.size 9 1 v L.length (bys L)) ∧ Below w.heap.size w w' := by
  obtain ⟨ao, cap, rfl, hc⟩ := ha
  have HC : Put (_) := ⟨hc⟩
  obtain ⟨i0, hi, hz0, hz1, hz2⟩ := info_parts info9
  clear hc
  go_enter Tryd.func9, Tryd.ntmps9
  go_wp2_with fail
  go_loopg [3, 4] L.length (fun gk lv iv wr => ∃ i : Nat, iv = .int .i64 i ∧ i + gk = L.length ∧ wr.ownsRow w.heap.size 9 1 lv i (bys (L.take i)) ∧ Below w.heap.size w wr)
  case atStart => exact ⟨0, rfl, by omega, World.ownsRow_nil _ _ _ _, Below.refl _ _⟩
  case round =>
    obtain ⟨i, rfl, hik, hrow, hBr⟩ := hrel
    have hsr := hBr.size
    by_cases hlt : i < L.length
    · have hlt' : (i : Int) < (L.length : Int) := by omega
      have k0 : (0 : Int) ≤ (i : Int) := by omega
      obtain ⟨g', rfl⟩ : ∃ g', gk = g' + 1 := ⟨gk - 1, by omega⟩
      obtain ⟨b, o, rfl, hbl, hcell⟩ := HC.out (by omega)
      have ci := (hBr.cell (p := ⟨b, o + i, none⟩) hbl).trans (hcell i hlt)
      have HS : Put (_ = _) := ⟨bys_snoc L i hlt⟩
      have hbl4 : (bys (L.take i)).length = i := by simp [bys]; omega
      generalize bys (L.take i) = M at *
      generalize L[i] = t at *
      clear hcell
      go_wp2_with (at_builtin; refine wpList_append_own _ rfl _ _ 29 rfl w.heap.size 9 i0 _ 1 16 Tryd.underlying29 hi hz0 hz1 hz2 rfl Nat.one_pos u3 i M rfl (hrow.alloc _) ⟨wr.heap.size, 0, none⟩ 1 1 [.string t] rfl rfl (cell_one_new _ _ _) (by simp [Value.oneCell']) (by unfold maxLen; omega) (by omega) (by simp; omega) ?_)
      intro v' w5 hown' hgrow _
      obtain ⟨g5, cap5, rfl⟩ := ownsRow_succ hown'
      have hB5 : Below w.heap.size w w5 := (hBr.alloc hsr _).grown hgrow (by simp; omega) (fun k e => (hrow.lt k e).1)
      have hrn : w5.ownsRow w.heap.size 9 1 (.slice (some ⟨g5, 0, none⟩) (i + 1) cap5) (i + 1) (bys (L.take (i + 1))) := by rw [HS.out]; exact hown'
      clear hown' hgrow hrow hBr ci
      go_wp2
      go_roundg g'
      case measure => exact Nat.lt_succ_self _
      case rel => exact ⟨i + 1, by go_num, by omega, hrn, hB5⟩
    · obtain rfl : i = L.length := by omega
      have hlt' : ¬ ((L.length : Int) < (L.length : Int)) := by omega
      rw [List.take_length] at hrow
      obtain ⟨aol, capl, rfl⟩ := owned_slice' hrow
      have HROW : Put (_) := ⟨hrow⟩
      clear hrow
      go_wp2
      go_ret
      exact ⟨⟨_, rfl, HROW.out⟩, hBr⟩
end
end Go.Proofs.YtgoebckimmofoaaDoor

/- A list of texts that is handed in. Our own text. -/
namespace Go.Proofs.YtgoebckimmofoaaDoor
open Go.ChangeShapes Go.WideShapes Go.ChangeAt Go.RowKit

theorem laidOut : laidOutB Tryd.prog = true := by kernel_rfl
theorem cells_str : Tryd.prog.cellsOf 9 = 1 := by kernel_rfl
theorem bytes_str : Tryd.prog.bytesOf 9 = 16 := by kernel_rfl
theorem lt_of_cell {w : World} {a : Addr} {v : Value} (h : w.cell? a = some v) : a.block < w.heap.size := by
  rcases Nat.lt_or_ge a.block w.heap.size with h' | h'
  · exact h'
  · simp [World.cell?, Array.getElem?_eq_none h'] at h
theorem open_texts {H : Type} {enc : TypeId × Value → H} {W : World} {a0 : Option Addr} {len cap fuel : Nat} {x : DataW H × List MemPlace}
    (hf : DataW.trod enc Tryd.prog W 0 (fun _ => true) true fuel 29 [.slice a0 len cap] = some x) :
    ∃ L : List ByteArray, L.length = len ∧ Reads W (.slice a0 len cap) L ∧ (∀ s ∈ L, s.size ≤ maxLen) ∧ (len = 0 ∨ ∃ spare, x.1 = .slice (Go.ChangeShapes.strs L) spare) := by
  rcases open_strings Tryd.underlying29 Tryd.underlying9 cells_str hf with ⟨hcs, hx⟩ | ⟨a, len', cap', ss, hcs, _, hl, hm, hz, hx, hcell, hws⟩
  · simp at hcs
    obtain ⟨rfl, rfl, rfl⟩ := hcs
    exact ⟨[], rfl, ⟨none, 0, rfl, fun h => absurd h (by simp)⟩, fun s hs => by simp at hs, .inl rfl⟩
  · simp at hcs
    obtain ⟨rfl, rfl, rfl⟩ := hcs
    subst hx
    simp only [if_true] at hz
    obtain ⟨b, off, spot⟩ := a
    have hlen : (ss.take len).length = len := by simp; omega
    refine ⟨ss.take len, hlen, ⟨_, cap, by rw [hlen], fun h0 => ?_⟩, fun s hs => hws s (List.mem_of_mem_take hs), .inr ⟨_, rfl⟩⟩
    rw [hlen] at h0
    have hspot : spot = none := by simpa [Addr.add] using World.cell?_spot (hcell 0 (by omega))
    subst hspot
    refine ⟨b, off, rfl, lt_of_cell (hcell 0 (by omega)), fun i hi => ?_⟩
    rw [hlen] at hi
    have := hcell i (by omega)
    rw [add_plain] at this
    rw [this]
    have hi2 : i < ss.length := by omega
    simp [List.getD, hi2]
end Go.Proofs.YtgoebckimmofoaaDoor

/- What stays while texts are read, and what function values mean. Our own text. -/
namespace Go.Proofs.YtgoebckimmofoaaDoor
open Go.RowKit Go.Lib

/-- Types of blocks that may change whenever: readers, machines, what else is written. -/
def soft (t : TypeId) : Bool := [81, 74, 116, 64, 900018, 900012, 900009, 900010, 900011, 900008, 900010, 900011, 900010, 33].contains t
/-- Types of rows that grow from some block on. -/
def grows (t : TypeId) : Bool := [137, 160].contains t
/-- Blocks stay, but for these: of the growing rows the ones below N. -/
structure Kp (N : Nat) (w w' : World) : Prop where
  size : w.heap.size ≤ w'.heap.size
  keep : ∀ k cs (t : TypeId) fz, w.heap[k]? = some (.cells cs t fz) → cs ≠ #[Value.nilFunc] → soft t = false → (grows t = true → k < N) → w'.heap[k]? = w.heap[k]?
theorem Kp.refl (N : Nat) (w : World) : Kp N w w := ⟨Nat.le_refl _, fun _ _ _ _ _ _ _ _ => rfl⟩
theorem Kp.trans {N : Nat} {a b c : World} (h : Kp N a b) (k : Kp N b c) : Kp N a c :=
  ⟨Nat.le_trans h.size k.size, fun i cs t fz hc hn h1 h2 => (k.keep i cs t fz ((h.keep i cs t fz hc hn h1 h2).trans hc) hn h1 h2).trans (h.keep i cs t fz hc hn h1 h2)⟩
theorem Kp.mono {N M : Nat} {a b : World} (h : Kp N a b) (hm : M ≤ N) : Kp M a b :=
  ⟨h.size, fun i cs t fz hc hn h1 h2 => h.keep i cs t fz hc hn h1 (fun e => Nat.lt_of_lt_of_le (h2 e) hm)⟩
theorem Kp.of_below {N : Nat} {w w' : World} (h : Below w.heap.size w w') : Kp N w w' :=
  ⟨h.size, fun k _ _ _ hc _ _ _ => h.block k (lt_of_block hc)⟩
theorem Kp.of_ex {N B : Nat} {w w' : World} {cs : Array Value} {ty : TypeId} {fz : Nat × Nat} (h : Ex B w w') (hB : w.heap[B]? = some (.cells cs ty fz)) (hs : soft ty = true) : Kp N w w' :=
  ⟨h.size, fun k cs' t fz' hc _ h1 _ => h.block k (lt_of_block hc) (fun e => by subst e; rw [hB] at hc; simp at hc; obtain ⟨_, rfl, _⟩ := hc; rw [hs] at h1; cases h1)⟩
theorem Kp.alloc (N : Nat) (w : World) (o : Obj) : Kp N w (w.alloc o) := Kp.of_below ((Below.refl _ _).alloc (Nat.le_refl _) _)
/-- A row of function values that grows: it lies at or beyond N. -/
theorem Kp.grown {N : Nat} {w w' : World} {e size n base : Nat} {v : Value} {xs : List Value} (ho : w.ownsRow base e size v n xs) (he : soft e = true ∨ (grows e = true ∧ N ≤ base)) (g : w.grownBy w' v.ownBlock) : Kp N w w' := by
  refine ⟨g.size, fun k cs t fz hc _ h1 h2 => g.block k (lt_of_block hc) (fun e' => ?_)⟩
  rcases ho.2 with ⟨rfl, _⟩ | ⟨g', cap, cur, rfl, hb, hg, _⟩
  · simp [Value.ownBlock] at e'
  · obtain rfl : k = g' := by simpa [Value.ownBlock] using e'
    rw [hg] at hc
    simp at hc
    obtain ⟨_, rfl, _⟩ := hc
    rcases he with he | ⟨he, hN⟩
    · rw [he] at h1; cases h1
    · have := h2 he; omega
/-- A store into a block of a soft type. -/
theorem Kp.softSet {N : Nat} {w : World} {cs : Array Value} {ty : TypeId} {fz : Nat × Nat} {p : Addr} (hB : w.heap[p.block]? = some (.cells cs ty fz)) (hs : soft ty = true) (v : Value) : Kp N w (w.setCell p v) :=
  Kp.of_ex (B := p.block) ((Ex.refl p.block w).setCell (.inl rfl) v) hB hs

/-- A function value on a state. -/
def FnK (N : Nat) (w : World) (v : Value) (R : Nat → Value) : Prop :=
  ∃ (fn : Nat) (caps : Array Value), v = .func (.func fn) #[] caps ∧ (∀ args w, (callFunc fn args).run Tryd.prog w = .ok (.enter fn args) w) ∧
    ∀ W, Kp N w W → 0 < W.heap.size → Tab W → ∀ x, x < 64 → Calls Tryd.prog fn (#[.int .u8 (x : Nat)] ++ caps) W fun e W' => e = .returned (R x) ∧ Below W.heap.size W W'
theorem FnK.kp {N : Nat} {w w' : World} {v : Value} {R : Nat → Value} (h : FnK N w v R) (k : Kp N w w') : FnK N w' v R := by
  obtain ⟨fn, caps, h1, h2, h3⟩ := h
  exact ⟨fn, caps, h1, h2, fun W hW => h3 W (k.trans hW)⟩
theorem FnK.up {N N' : Nat} {w w' : World} {v : Value} {R : Nat → Value} (h : FnK N w v R) (k : Kp N w w') (hn : N ≤ N') : FnK N' w' v R := by
  obtain ⟨fn, caps, h1, h2, h3⟩ := h
  exact ⟨fn, caps, h1, h2, fun W hW => h3 W (k.trans (hW.mono hn))⟩
/-- One on a state and a set of states. -/
def FnK2 (w : World) (v : Value) (R : Nat → Nat → Value) : Prop :=
  ∃ (fn : Nat) (caps : Array Value), v = .func (.func fn) #[] caps ∧ (∀ args w, (callFunc fn args).run Tryd.prog w = .ok (.enter fn args) w) ∧
    ∀ W, Kp 0 w W → 0 < W.heap.size → Tab W → ∀ x m, x < 64 → m < 18446744073709551616 → Calls Tryd.prog fn (#[.int .u8 (x : Nat), .int .u64 (m : Nat)] ++ caps) W fun e W' => e = .returned (R x m) ∧ Below W.heap.size W W'
theorem FnK2.kp {w w' : World} {v : Value} {R : Nat → Nat → Value} (h : FnK2 w v R) (k : Kp 0 w w') : FnK2 w' v R := by
  obtain ⟨fn, caps, h1, h2, h3⟩ := h
  exact ⟨fn, caps, h1, h2, fun W hW => h3 W (k.trans hW)⟩
/-- A box of another type than those stays. -/
theorem Kp.box {N b : Nat} {w W : World} {v : Value} {t : TypeId} (h : Kp N w W) (hb : w.heap[b]? = some (.cells #[v] t (0, 0))) (h1 : soft t = false := by decide) (h2 : grows t = false := by decide) (hv : v ≠ .nilFunc := by simp) : W.heap[b]? = some (.cells #[v] t (0, 0)) :=
  (h.keep b _ t _ hb (by simpa using hv) h1 (fun e => by rw [h2] at e; cases e)).trans hb
theorem box_cell {b : Nat} {W : World} {v : Value} {t : TypeId} (h : W.heap[b]? = some (.cells #[v] t (0, 0))) : W.cell? ⟨b, 0, none⟩ = some v := by simp [World.cell?, h]
/-- A box that was empty is filled. -/
theorem Kp.fill {N b : Nat} {w : World} {t : TypeId} (v : Value) (h : w.heap[b]? = some (.cells #[Value.nilFunc] t (0, 0))) : Kp N w (w.setCell ⟨b, 0, none⟩ v) := by
  refine ⟨by simp, fun k cs t' fz hc hn _ _ => heap_setCell_other _ _ _ _ (fun e => ?_)⟩
  have e' : k = b := e
  subst e'
  rw [h] at hc
  simp at hc
  exact hn hc.1.symm
/-- A row of function values that lies below N stays. -/
theorem Kp.row {N base e n : Nat} {w W : World} {v : Value} {xs : List Value} (h : Kp N w W) (he : soft e = false) (ho : w.ownsRow base e 1 v n xs) (hN : w.heap.size ≤ N) (h0 : ∃ f a, xs[0]? = some (.func f #[] a)) : W.ownsRow base e 1 v n xs := by
  refine ⟨ho.1, ?_⟩
  rcases ho.2 with hn | ⟨g, cap, cur, rfl, hb, hg, r1, r2, r3, r4⟩
  · exact .inl hn
  · refine .inr ⟨g, cap, cur, rfl, hb, (h.keep g cur e _ hg ?_ he (fun _ => Nat.lt_of_lt_of_le (lt_of_block hg) hN)).trans hg, r1, r2, r3, r4⟩
    rintro rfl
    obtain ⟨f, a, hx⟩ := h0
    rw [← r4, List.getElem?_take] at hx
    split at hx
    · simp at hx
    · cases hx

/-- The term that stands at a place. -/
def tmOf (s : ByteArray) (p : Nat) : Tm := match num? s p 97 0 2 with
  | some k => ((k : Int), 0, (p : Int))
  | none => match num? s p 48 0 3 with
    | some k => (-1, (k : Int), (p : Int))
    | none => (0, 0, 0)
theorem num_disj' {s : ByteArray} {p k : Nat} (h : num? s p 97 0 2 = some k) : num? s p 48 0 3 = none := by
  unfold num? at *
  split
  · next hl => rw [dif_pos hl] at h; split at h
               · rw [if_neg (by omega)]
               · cases h
  · rfl
theorem num_disj {s : ByteArray} {p k : Nat} (h : num? s p 48 0 3 = some k) : num? s p 97 0 2 = none := by
  cases h2 : num? s p 97 0 2 with
  | none => rfl
  | some j => rw [num_disj' h2] at h; cases h
theorem tmV_digit {s : ByteArray} {p k : Nat} (h : num? s p 48 0 3 = some k) (y : Nat) : tmV (tmOf s p) y = k := by
  unfold tmOf; rw [num_disj h, h]; unfold tmV; rw [if_pos (by simp)]; simp
theorem tmV_name {s : ByteArray} {p k : Nat} (h : num? s p 97 0 2 = some k) (y : Nat) : tmV (tmOf s p) y = dig y k := by
  unfold tmOf; rw [h]; unfold tmV; rw [if_neg (by simp)]; simp
theorem tmV_le3 (s : ByteArray) (p y : Nat) : tmV (tmOf s p) y ≤ 3 := by
  have hd : ∀ a k, dig a k ≤ 3 := fun a k => by unfold dig; omega
  cases h : num? s p 48 0 3 with
  | some k => rw [tmV_digit h]; exact (num_le h).2
  | none =>
    cases h2 : num? s p 97 0 2 with
    | some k => rw [tmV_name h2]; exact hd _ _
    | none => unfold tmOf; rw [h2, h]; unfold tmV; split <;> first | exact Nat.zero_le _ | exact hd _ _

theorem term1_any (k b : Nat) (x : Int) (W : World) (hb : W.heap[b]? = some (.cells #[.int .i64 k] 3 (0, 0))) : Calls Tryd.prog 89 #[.int .u8 x, .pointer (some ⟨b, 0, none⟩)] W fun e W' => e = .returned (.int .i64 (k : Nat)) ∧ W' = W := by
  have c := box_cell hb
  go_enter Tryd.func89, Tryd.ntmps89
  go_wp2
  go_ret
  exact ⟨rfl, rfl⟩
theorem term2_any (k b x : Nat) (hx : x < 64) (hk : k < 3) (W : World) (hb : W.heap[b]? = some (.cells #[.int .i64 k] 3 (0, 0))) : Calls Tryd.prog 90 #[.int .u8 (x : Nat), .pointer (some ⟨b, 0, none⟩)] W fun e W' => e = .returned (.int .i64 (dig x k : Nat)) ∧ W' = W := by
  have c := box_cell hb
  go_enter Tryd.func90, Tryd.ntmps90
  go_wp2_with fail
  refine (value_any x k hx hk W).mono ?_
  rintro e w' ⟨rfl, rfl⟩
  go_wp2
  go_ret
  exact ⟨rfl, rfl⟩

def pTerm (s : ByteArray) (t : T) : Option T :=
  match num? s t.at_ 48 0 3 with
  | some _ => some t.adv
  | none => match num? s t.at_ 97 0 2 with
    | some k => some (t.named k)
    | none => none
section
variable {B M : Nat} {ty : TypeId} {rest : List Value} {s : ByteArray} {t : T} {w : World}
theorem term_no (hs : s.size ≤ 120) (hat : t.at_ ≤ s.size) (hb : RG B M ty rest s t w) (hn : pTerm s t = none) :
    Calls Tryd.prog 81 #[.pointer (some ⟨B, 0, none⟩)] w fun e w' => e = .returned (.tuple #[.nilFunc, .bool false]) ∧ RG B M ty rest s t w' ∧ Ex B w w' := by
  unfold pTerm at hn
  cases h1 : num? s t.at_ 48 0 3 with
  | some k => simp [h1] at hn
  | none =>
    cases h2 : num? s t.at_ 97 0 2 with
    | some k => simp [h1, h2] at hn
    | none =>
      clear hn
      have hmf : ∀ (fn : Fn) (first cap : Array Value) (w : World), (Instr.makeFunc fn first cap).run Tryd.prog w = .ok (.func fn first cap) w := fun _ _ _ _ => rfl
      go_enter Tryd.func81, Tryd.ntmps81
      go_wp2_with fail
      refine (digit_no0 0 hs hat (by omega) hb h1).mono ?_; rintro e w1 ⟨rfl, hb1, hx1⟩
      go_wp2_with fail
      refine (name_no0 hs hat (hb1.alloc _) h2).mono ?_; rintro e w2 ⟨rfl, hb2, hx2⟩
      go_wp2
      go_ret2
      exact ⟨rfl, hb2.alloc _, ((hx1.alloc _).trans hx2).alloc _⟩
set_option maxHeartbeats 800000 in
theorem term_yes {t' : T} (hs : s.size ≤ 120) (hat : t.at_ ≤ s.size) (hb : RG B M ty rest s t w) (hn : pTerm s t = some t') :
    Calls Tryd.prog 81 #[.pointer (some ⟨B, 0, none⟩)] w fun e w' => (∃ f a, e = .returned (.tuple #[.func f #[] a, .bool true]) ∧ FnK 0 w' (.func f #[] a) (fun x => .int .i64 (tmV (tmOf s t.at_) x : Nat))) ∧ RG B M ty rest s t' w' ∧ Ex B w w' := by
  unfold pTerm at hn
  have hmf : ∀ (fn : Fn) (first cap : Array Value) (w : World), (Instr.makeFunc fn first cap).run Tryd.prog w = .ok (.func fn first cap) w := fun _ _ _ _ => rfl
  cases h1 : num? s t.at_ 48 0 3 with
  | some k =>
    simp [h1] at hn; subst hn
    have HV : Put (∀ y, tmV (tmOf s t.at_) y = k) := ⟨tmV_digit h1⟩
    go_enter Tryd.func81, Tryd.ntmps81
    go_wp2_with fail
    refine (digit_yes0 0 k hs (by omega) hb h1).mono ?_; rintro e w1 ⟨rfl, hb1, hx1⟩
    go_wp2
    go_ret2
    refine ⟨⟨_, _, rfl, ⟨89, #[.pointer (some ⟨w1.heap.size, 0, none⟩)], rfl, enters_of Tryd.func89 (by kernel_rfl) rfl, fun W hW _ _ y hy => ?_⟩⟩, hb1.alloc _, hx1.alloc _⟩
    have hbx := hW.box (heap_alloc_new w1 (.cells #[.int .i64 k] 3))
    show Calls _ _ _ _ fun e W' => e = .returned (.int .i64 ((tmV (tmOf s t.at_) y : Nat) : Int)) ∧ _
    rw [HV.out]
    refine (term1_any k w1.heap.size _ W hbx).mono ?_
    rintro e W' ⟨rfl, rfl⟩
    exact ⟨rfl, Below.refl _ _⟩
  | none =>
    cases h2 : num? s t.at_ 97 0 2 with
    | some k =>
      simp [h1, h2] at hn; subst hn
      have hk2 := (num_le h2).2
      have HV : Put (∀ y, tmV (tmOf s t.at_) y = dig y k) := ⟨tmV_name h2⟩
      go_enter Tryd.func81, Tryd.ntmps81
      go_wp2_with fail
      refine (digit_no0 0 hs hat (by omega) hb h1).mono ?_; rintro e w1 ⟨rfl, hb1, hx1⟩
      go_wp2_with fail
      refine (name_yes0 k hs (hb1.alloc _) h2).mono ?_; rintro e w2 ⟨rfl, hb2, hx2⟩
      go_wp2
      go_ret2
      refine ⟨⟨_, _, rfl, ⟨90, #[.pointer (some ⟨w2.heap.size, 0, none⟩)], rfl, enters_of Tryd.func90 (by kernel_rfl) rfl, fun W hW _ _ y hy => ?_⟩⟩, hb2.alloc _, ((hx1.alloc _).trans hx2).alloc _⟩
      have hbx := hW.box (heap_alloc_new w2 (.cells #[.int .i64 k] 3))
      show Calls _ _ _ _ fun e W' => e = .returned (.int .i64 ((tmV (tmOf s t.at_) y : Nat) : Int)) ∧ _
      rw [HV.out]
      refine (term2_any k w2.heap.size y hy (by omega) W hbx).mono ?_
      rintro e W' ⟨rfl, rfl⟩
      exact ⟨rfl, Below.refl _ _⟩
    | none => simp [h1, h2] at hn
end
end Go.Proofs.YtgoebckimmofoaaDoor
