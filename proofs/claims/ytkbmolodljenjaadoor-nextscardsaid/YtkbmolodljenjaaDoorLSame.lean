/- The law's own helpers: two lists of texts, spoiling one. Our own text. -/
import Derived.Test.YtkbmolodljenjaaDoorNPure
namespace Go.Proofs.YtkbmolodljenjaaDoor
open Go.RowKit

def bys (l : List ByteArray) : List Value := l.map Value.string
theorem strs_bys (l : List (List Nat)) : strs l = bys (l.map txtL) := by simp [strs, bys]
theorem bys_at {w : World} {base : Nat} {v : Value} {l : List ByteArray} (h : w.ownsRow base 9 1 v l.length (bys l)) (hl : 0 < l.length) : ∃ g cap, v = .slice (some ⟨g, 0, none⟩) l.length cap ∧ base ≤ g ∧ g < w.heap.size ∧ l.length ≤ cap ∧ ∀ k (hk : k < l.length), w.cell? ⟨g, k, none⟩ = some (.string l[k]) := by
  have e : bys l = l.flatMap (fun d => [Value.string d]) := by
    unfold bys; rw [List.map_eq_flatMap]
  rw [e] at h
  obtain ⟨ao, cap, rfl⟩ := owned_slice' h
  obtain ⟨g, rfl, h2, h3, h4, h5⟩ := row_at (z := 1) (fun _ => rfl) h hl
  exact ⟨g, cap, rfl, h2, h3, h4, fun k hk => by have := h5 k hk 0 (by omega); simpa using this⟩

section
variable {w : World}
set_option maxRecDepth 100000 in
set_option maxHeartbeats 1600000 in
theorem same_any (b1 b2 : Nat) (va vb : Value) (l : List ByteArray) (hl : l.length ≤ 9223372036854775807) (ha : w.ownsRow b1 9 1 va l.length (bys l)) (hb : w.ownsRow b2 9 1 vb l.length (bys l)) :
    Calls Tryd.prog 14 #[va, vb] w fun e w' => e = .returned (.bool true) ∧ Below w.heap.size w w' := by
  obtain ⟨aoa, capa, rfl⟩ := owned_slice' ha
  obtain ⟨aob, capb, rfl⟩ := owned_slice' hb
  have HA : Put (_) := ⟨ha⟩
  have HB : Put (_) := ⟨hb⟩
  clear ha hb
  go_enter Tryd.func14, Tryd.ntmps14
  go_wp2_with fail
  go_loopg [5] l.length (fun gk iv wr => ∃ i m : Nat, iv = .int .i64 i ∧ i + gk = l.length ∧ wr = w.drewN m)
  case atStart => exact ⟨0, 0, rfl, by omega, rfl⟩
  case round =>
    obtain ⟨i, m, rfl, hik, rfl⟩ := hrel
    by_cases hlt : i < l.length
    · have hlt' : (i : Int) < (l.length : Int) := by omega
      have i0 : (0 : Int) ≤ (i : Int) := by omega
      obtain ⟨g', rfl⟩ : ∃ g', gk = g' + 1 := ⟨gk - 1, by omega⟩
      obtain ⟨ga, ca, hea, _, _, _, hca⟩ := bys_at HA.out (by omega)
      obtain ⟨gb, cb, heb, _, _, _, hcb⟩ := bys_at HB.out (by omega)
      obtain ⟨rfl, rfl⟩ : aoa = some ⟨ga, 0, none⟩ ∧ capa = ca := by simpa using hea
      obtain ⟨rfl, rfl⟩ : aob = some ⟨gb, 0, none⟩ ∧ capb = cb := by simpa using heb
      have c1 := hca i hlt
      have c2 := hcb i hlt
      generalize l[i] = s at c1 c2
      clear hca hcb hea heb
      go_wp2_with fail
      go_quiet (fail)
      go_wp2
      go_roundg g'
      case measure => exact Nat.lt_succ_self _
      case rel => exact ⟨i + 1, _, by go_num, by omega, rfl⟩
    · obtain rfl : i = l.length := by omega
      have hlt' : ¬ ((l.length : Int) < (l.length : Int)) := by omega
      go_wp2
      go_ret
      exact ⟨rfl, below_drewN (Below.refl _ _) _⟩
end
end Go.Proofs.YtkbmolodljenjaaDoor

namespace Go.Proofs.YtkbmolodljenjaaDoor
open Go.RowKit

/-- All blocks but that of a value's row are as they were. -/
def ExV (v : Value) (w w' : World) : Prop := ∃ g, (v.ownBlock = none ∨ v.ownBlock = some g) ∧ Ex g w w' ∧ (v.ownBlock = none → Below w.heap.size w w')
section
variable {w : World}
set_option maxRecDepth 100000 in
set_option maxHeartbeats 1600000 in
theorem spoil_any (b1 : Nat) (va : Value) (l : List Value) (hl : l.length ≤ 9223372036854775807) (ha : w.ownsRow b1 9 1 va l.length l) :
    Calls Tryd.prog 15 #[va] w fun e w' => (∃ v, e = .returned v) ∧ ExV va w w' := by
  rcases ha.2 with ⟨rfl, h0⟩ | ⟨g, cap, cur, rfl, hb, hg, hcap, r⟩
  · clear h0 ha hl
    go_enter Tryd.func15, Tryd.ntmps15
    go_wp2_with fail
    go_loopg [2] 0 (fun gk iv wr => iv = .int .i64 0 ∧ wr = w)
    case atStart => exact ⟨rfl, rfl⟩
    case round =>
      obtain ⟨rfl, rfl⟩ := hrel
      go_wp2
      go_end0
      exact ⟨⟨_, rfl⟩, 0, .inl rfl, Ex.refl _ _, fun _ => Below.refl _ _⟩
  · obtain ⟨_, hcs, _⟩ := r
    clear ha
    generalize l.length = n at *
    go_enter Tryd.func15, Tryd.ntmps15
    go_wp2_with fail
    go_loopg [2] n (fun gk iv wr => ∃ (i : Nat) (cs : Array Value), iv = .int .i64 i ∧ i + gk = n ∧ wr.heap[g]? = some (.cells cs 9 (0, 0)) ∧ cs.size = cap ∧ Ex g w wr)
    case atStart => exact ⟨0, cur, rfl, by omega, hg, by omega, Ex.refl _ _⟩
    case round =>
      obtain ⟨i, cs, rfl, hik, hgr, hcsz, hX⟩ := hrel
      by_cases hlt : i < n
      · have hlt' : (i : Int) < (n : Int) := by omega
        have i0 : (0 : Int) ≤ (i : Int) := by omega
        obtain ⟨g', rfl⟩ : ∃ g', gk = g' + 1 := ⟨gk - 1, by omega⟩
        have hics : i < cs.size := by omega
        have c1 : wr.cell? ⟨g, i, none⟩ = some cs[i] := by simp [World.cell?, hgr, Array.getElem?_eq_getElem hics]
        have f1 : wr.frozen? ⟨g, i, none⟩ = false := by simp [World.frozen?, hgr]
        have HN : Put (_ ∧ _) := ⟨heap_setCell_same wr g i cs 9 (.string ⟨#[]⟩) hgr, hX.setCell (p := ⟨g, i, none⟩) (.inl rfl) (.string ⟨#[]⟩)⟩
        clear hgr hX
        go_wp2
        go_roundg g'
        case measure => exact Nat.lt_succ_self _
        case rel => exact ⟨i + 1, _, by go_num, by omega, HN.out.1, by simpa using hcsz, HN.out.2⟩
      · have hlt' : ¬ ((i : Int) < (n : Int)) := by omega
        go_wp2
        go_end0
        exact ⟨⟨_, rfl⟩, g, .inr rfl, hX, fun h => by simp [Value.ownBlock] at h⟩
end
end Go.Proofs.YtkbmolodljenjaaDoor
