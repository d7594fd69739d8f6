import Derived.Test.YtgoebckimmofoaaGreatDoorRows
import Derived.WalkKit
import Derived.WalkSpells
import Derived.WalkLawsBesides
import Derived.Deep.QuietTactic
import Derived.BigQuiet
import Derived.RegionTactic
import Derived.Scope
import Derived.WalkMore
import Derived.Deep.LoopGhost
import Derived.Deep.AppendLies
import Derived.Test.YtgoebckimmofoaaGreatDoorB1
import Derived.Test.YtgoebckimmofoaaGreatDoorB4
import Derived.Test.YtgoebckimmofoaaGreatDoorB5
import Derived.Deep.RegionHeld3
import Derived.Test.YtgoebckimmofoaaGreatDoorB2
import Derived.Test.YtgoebckimmofoaaGreatDoorB3
/- The document's reader: a whole model, walked. Our own text. -/
namespace Go.Proofs.YtgoebckimmofoaaGreatDoor
open Go.RowKit

theorem Ex.okV {B : Nat} {w w' : World} (h : Ex B w w') {base : Nat} (hB : B < base) {v : V3} (ho : V3.Ok w base v) : V3.Ok w' base v := ⟨h.ownsRow hB ho.1, ho.2⟩
theorem Ex.okR {B : Nat} {w w' : World} (h : Ex B w w') {base : Nat} (hB : B < base) {v : R2} (ho : R2.Ok w base v) : R2.Ok w' base v := ⟨h.ownsRow hB ho.1, h.ownsRow hB ho.2⟩
theorem V3.set {w : World} {base c t : Nat} {v : V3} {cs : Array Value} (ho : V3.Ok w base v) (hc : w.heap[c]? = some (.cells cs t (0, 0))) (ht : 3 ≠ t) (i : Nat) (x : Value) : V3.Ok (w.setCell ⟨c, i, none⟩ x) base v :=
  ⟨ownsRow_setCell_other ho.1 (a := ⟨c, i, none⟩) (ne_block_of_type ho.1 hc ht) x, ho.2⟩
theorem R2.set {w : World} {base c t : Nat} {v : R2} {cs : Array Value} (ho : R2.Ok w base v) (hc : w.heap[c]? = some (.cells cs t (0, 0))) (ht : 87 ≠ t) (ht' : 198 ≠ t) (i : Nat) (x : Value) : R2.Ok (w.setCell ⟨c, i, none⟩ x) base v :=
  ⟨ownsRow_setCell_other ho.1 (a := ⟨c, i, none⟩) (ne_block_of_type ho.1 hc ht) x, ownsRow_setCell_other ho.2 (a := ⟨c, i, none⟩) (ne_block_of_type ho.2 hc ht') x⟩
theorem own_snocV {w : World} {base : Nat} {v : Value} {cl : List V3} {c : V3} (h : w.ownsRow base 139 3 v (cl.length + 1) (cl.flatMap V3.cells ++ c.cells)) : w.ownsRow base 139 3 v (cl ++ [c]).length ((cl ++ [c]).flatMap V3.cells) := by
  simpa [List.flatMap_append] using h
theorem own_snocR {w : World} {base : Nat} {v : Value} {cl : List R2} {c : R2} (h : w.ownsRow base 146 2 v (cl.length + 1) (cl.flatMap R2.cells ++ c.cells)) : w.ownsRow base 146 2 v (cl ++ [c]).length ((cl ++ [c]).flatMap R2.cells) := by
  simpa [List.flatMap_append] using h
def LV (s : ByteArray) (R : Option (List VA) × Q) (g : Nat) (b : Bool) (q : Q) (vs : List V3) : Prop :=
  (b = true ∧ 1 ≤ g ∧ (∃ i, q = .ok i ∧ i ≤ s.size) ∧ qVars s g q (vs.map V3.ast) = R) ∨ (b = false ∧ ((∃ i, q = .ok i ∧ i ≤ s.size ∧ R = (some (vs.map V3.ast), q)) ∨ (∃ p, q = .error p ∧ R = (none, q))))
theorem LV_step {s : ByteArray} {R : Option (List VA) × Q} {g : Nat} {q qv : Q} {vs : List V3} {rv : Option VA} (h : LV s R g true q vs) (hl : vs.length + g = 3) (hv : qVar s vs.length q = (rv, qv)) :
    ∃ g', g = g' + 1 ∧ vs.length < 3 ∧ ((rv = none ∧ ∃ p, qv = .error p ∧ R = (none, .error p)) ∨ ∃ v j, rv = some v ∧ qv = .ok j ∧ j ≤ s.size ∧
      (vs.length + 1 < 3 → qNum s (.ok j) 44 0 = none → R = (some (vs.map V3.ast ++ [v]), .ok j)) ∧ (vs.length + 1 < 3 → ∀ k, qNum s (.ok j) 44 0 = some k → 1 ≤ g' ∧ j + 1 ≤ s.size ∧ qVars s g' (.ok (j + 1)) (vs.map V3.ast ++ [v]) = R) ∧ (¬ vs.length + 1 < 3 → R = (some (vs.map V3.ast ++ [v]), .ok j))) := by
  rcases h with ⟨_, hg, ⟨i, rfl, hi⟩, hR⟩ | ⟨h, _⟩
  case inr => cases h
  obtain ⟨g', rfl⟩ : ∃ g', g = g' + 1 := ⟨g - 1, by omega⟩
  refine ⟨g', rfl, by omega, ?_⟩
  unfold qVars at hR
  rw [List.length_map, hv] at hR
  cases rv with
  | none =>
    obtain ⟨p, rfl⟩ := qVar_none hv
    exact .inl ⟨rfl, p, rfl, hR.symm⟩
  | some v =>
    obtain ⟨j, rfl, hj⟩ := qVar_some hv
    refine .inr ⟨v, j, rfl, rfl, hj, fun h3 hn => ?_, fun h3 k hn => ?_, fun h3 => ?_⟩
    · simp only [if_pos h3, hn] at hR; exact hR.symm
    · simp only [if_pos h3, hn] at hR
      have := num_lt hn
      exact ⟨by omega, this, hR⟩
    · simp only [if_neg h3] at hR; exact hR.symm

/-- A rule as it lies in memory, tied to the text. -/
def R2.Tied (s : ByteArray) (r : R2) : Prop := (∀ c ∈ r.cl, C7.Tied s c) ∧ ∀ c ∈ r.dl, D7.Tied s c
def LR (s : ByteArray) (R : Option (List RA) × Q) (g : Nat) (q : Q) (rs : List R2) : Prop :=
  (∃ i, q = .ok i ∧ i ≤ s.size ∧ s.size + 1 ≤ i + g ∧ qRules s g i (rs.map R2.ast) = R ∧ ∀ x ∈ rs, R2.Tied s x) ∨ (∃ p, q = .error p ∧ R = (none, .error p))
def ReadPost (s : ByteArray) (w : World) (r : Option (List VA × List RA)) (q' : Q) (e : Ending) (w' : World) : Prop :=
  (∃ (ao aor : Option Addr) (cap capr : Nat) (vs : List V3) (rs : List R2) (bad : Int), e = .returned (.tuple #[.agg #[.slice ao vs.length cap, .slice aor rs.length capr], .int .i64 bad]) ∧ w'.ownsRow w.heap.size 139 3 (.slice ao vs.length cap) vs.length (vs.flatMap V3.cells) ∧ w'.ownsRow w.heap.size 146 2 (.slice aor rs.length capr) rs.length (rs.flatMap R2.cells) ∧ (∀ v ∈ vs, V3.Ok w' w.heap.size v) ∧ (∀ x ∈ rs, R2.Ok w' w.heap.size x) ∧ vs.length ≤ 3 ∧ rs.length ≤ 200 ∧ ((∃ p : Nat, r = none ∧ q' = .error p ∧ bad = p) ∨ (r = some (vs.map V3.ast, rs.map R2.ast) ∧ bad = -1 ∧ ∀ x ∈ rs, R2.Tied s x))) ∧ Below w.heap.size w w'
theorem read_fin {B : Nat} {s : ByteArray} {w wr : World} {ao aor : Option Addr} {cap capr : Nat} {vs : List V3} {rs : List R2} {r : Option (List VA × List RA)} {q' : Q} {bad : Int} {m : Array Value}
    (hB : w.heap.size + 1 = B) (hX : Ex B w wr) (hM : wr.heap[w.heap.size]? = some (.cells m 65 (0, 0)))
    (hv : wr.ownsRow (B + 1) 139 3 (.slice ao vs.length cap) vs.length (vs.flatMap V3.cells)) (hOv : ∀ v ∈ vs, V3.Ok wr (B + 1) v)
    (hr : wr.ownsRow (B + 1) 146 2 (.slice aor rs.length capr) rs.length (rs.flatMap R2.cells)) (hOr : ∀ x ∈ rs, R2.Ok wr (B + 1) x)
    (h3 : vs.length ≤ 3) (h8 : rs.length ≤ 200) (hfin : (∃ p : Nat, r = none ∧ q' = .error p ∧ bad = p) ∨ (r = some (vs.map V3.ast, rs.map R2.ast) ∧ bad = -1 ∧ ∀ x ∈ rs, R2.Tied s x)) :
    ReadPost s w r q' (.returned (.tuple #[.agg #[.slice ao vs.length cap, .slice aor rs.length capr], .int .i64 bad])) ((wr.setCell ⟨w.heap.size, 0, none⟩ (.slice ao vs.length cap)).setCell ⟨w.heap.size, 1, none⟩ (.slice aor rs.length capr)).drew := by
  have hM2 := heap_setCell_same wr w.heap.size 0 m 65 (.slice ao vs.length cap) hM
  refine ⟨⟨ao, aor, cap, capr, vs, rs, bad, rfl, ?_, ?_, ?_, ?_, h3, h8, hfin⟩, ?_⟩
  · have := ownsRow_setCell_other (ownsRow_setCell_other hv (a := ⟨w.heap.size, 0, none⟩) (ne_block_of_type hv hM (by omega)) (.slice ao vs.length cap)) (a := ⟨w.heap.size, 1, none⟩) (ne_block_of_type hv hM (by omega)) (.slice aor rs.length capr)
    exact own_base this (by omega)
  · have := ownsRow_setCell_other (ownsRow_setCell_other hr (a := ⟨w.heap.size, 0, none⟩) (ne_block_of_type hr hM (by omega)) (.slice ao vs.length cap)) (a := ⟨w.heap.size, 1, none⟩) (ne_block_of_type hr hM (by omega)) (.slice aor rs.length capr)
    exact own_base this (by omega)
  · intro v h
    have := V3.set (V3.set (hOv v h) hM (by omega) 0 (.slice ao vs.length cap)) hM2 (by omega) 1 (.slice aor rs.length capr)
    exact ⟨own_base this.1 (by omega), this.2⟩
  · intro v h
    have := R2.set (R2.set (hOr v h) hM (by omega) (by omega) 0 (.slice ao vs.length cap)) hM2 (by omega) (by omega) 1 (.slice aor rs.length capr)
    exact ⟨own_base this.1 (by omega), own_base this.2 (by omega)⟩
  · exact ((hX.below (b := w.heap.size) (by omega) (Nat.le_refl _)).setCell (Nat.le_refl _) _ |>.setCell (Nat.le_refl _) _).drew
theorem LR_step {s : ByteArray} {R : Option (List RA) × Q} {g i : Nat} {rs : List R2} (hs : s.size ≤ 120) (h : LR s R g (.ok i) rs) (hi : i < s.size) :
    ∃ g', g = g' + 1 ∧ (rs.length = 8 → R = (none, .error i)) ∧ (rs.length ≠ 8 → num? s i 59 0 0 = none → R = (none, .error i)) ∧ (rs.length ≠ 8 → ∀ k, num? s i 59 0 0 = some k → ∀ rr qr, qRule s (.ok (i + 1)) = (rr, qr) → (rr = none ∧ ∃ p, qr = .error p ∧ R = (none, .error p)) ∨ (∃ x j, rr = some x ∧ qr = .ok j ∧ j ≤ s.size ∧ s.size + 1 ≤ j + g' ∧ qRules s g' j (rs.map R2.ast ++ [x]) = R ∧ ∀ x ∈ rs, R2.Tied s x)) := by
  rcases h with ⟨i', h, hi', hf, hR, hT⟩ | ⟨p, h, _⟩
  case inr => cases h
  cases h
  obtain ⟨g', rfl⟩ : ∃ g', g = g' + 1 := ⟨g - 1, by omega⟩
  refine ⟨g', rfl, ?_, ?_, ?_⟩
  all_goals unfold qRules at hR; rw [if_pos hi, List.length_map] at hR
  · intro h8; rw [if_pos h8] at hR; exact hR.symm
  · intro h8 hn; rw [if_neg h8] at hR; simp only [hn] at hR; exact hR.symm
  · intro h8 k hn rr qr hq
    rw [if_neg h8] at hR; simp only [hn] at hR
    rw [hq] at hR
    rcases qRule_ok hs (show i + 1 ≤ s.size from hi) hq with ⟨rfl, p, rfl⟩ | ⟨x, j, rfl, rfl, h1, h2⟩
    · exact .inl ⟨rfl, p, rfl, hR.symm⟩
    · exact .inr ⟨x, j, rfl, rfl, h2, by omega, hR, hT⟩

section
variable {s : ByteArray} {w : World}
set_option maxRecDepth 100000 in
set_option maxHeartbeats 3200000 in
theorem rread_any {r : Option (List VA × List RA)} {q' : Q} (hs : s.size ≤ 120) (hp : qRead s = (r, q')) :
    Calls Tryz.prog 33 #[.string s] w fun e w' => ReadPost s w r q' e w' := by
  have hM1 : (((w.alloc (.cells #[.slice none 0 0, .slice none 0 0] 65)).alloc (.cells #[.string s, .int .i64 0, .int .i64 (-1)] 95)).alloc (.cells #[.slice none 0 0, .slice none 0 0] 65)).heap[w.heap.size]? = some (.cells #[.slice none 0 0, .slice none 0 0] 65 (0, 0)) := by
    rw [Below.heap_alloc _ _ _ (by simp; omega), Below.heap_alloc _ _ _ (by simp), heap_alloc_new]
  have hBk : (((w.alloc (.cells #[.slice none 0 0, .slice none 0 0] 65)).alloc (.cells #[.string s, .int .i64 0, .int .i64 (-1)] 95)).alloc (.cells #[.slice none 0 0, .slice none 0 0] 65)).heap[w.heap.size + 1]? = some (.cells #[.string s, .int .i64 0, .int .i64 (-1)] 95 (0, 0)) := by
    rw [Below.heap_alloc _ _ _ (by simp)]
    have := heap_alloc_new (w.alloc (.cells #[.slice none 0 0, .slice none 0 0] 65)) (.cells #[.string s, .int .i64 0, .int .i64 (-1)] 95)
    simpa using this
  have hC1 : (((w.alloc (.cells #[.slice none 0 0, .slice none 0 0] 65)).alloc (.cells #[.string s, .int .i64 0, .int .i64 (-1)] 95)).alloc (.cells #[.slice none 0 0, .slice none 0 0] 65)).heap[w.heap.size + 1 + 1]? = some (.cells #[.slice none 0 0, .slice none 0 0] 65 (0, 0)) := by
    have := heap_alloc_new ((w.alloc (.cells #[.slice none 0 0, .slice none 0 0] 65)).alloc (.cells #[.string s, .int .i64 0, .int .i64 (-1)] 95)) (.cells #[.slice none 0 0, .slice none 0 0] 65)
    simpa using this
  have hb1 : RS (w.heap.size + 1) s (.ok 0) (((w.alloc (.cells #[.slice none 0 0, .slice none 0 0] 65)).alloc (.cells #[.string s, .int .i64 0, .int .i64 (-1)] 95)).alloc (.cells #[.slice none 0 0, .slice none 0 0] 65)) := ⟨Nat.zero_le _, hBk⟩
  have hX1 : Ex (w.heap.size + 1) w (((w.alloc (.cells #[.slice none 0 0, .slice none 0 0] 65)).alloc (.cells #[.string s, .int .i64 0, .int .i64 (-1)] 95)).alloc (.cells #[.slice none 0 0, .slice none 0 0] 65)) := (((Ex.refl _ w).alloc _).alloc _).alloc _
  clear hBk
  unfold qRead at hp
  obtain ⟨R1, hR1⟩ : ∃ R1, qVars s 3 (.ok 0) [] = R1 := ⟨_, rfl⟩
  rw [hR1] at hp
  have HP : Aside (_ = (r, q')) := hp
  clear hp
  obtain ⟨i0, hi, hz0, hz1, hz2⟩ := info_parts Tryz.info82
  go_enter Tryz.func33, Tryz.ntmps33
  go_wp2_with fail
  generalize (((w.alloc (.cells #[.slice none 0 0, .slice none 0 0] 65)).alloc (.cells #[.string s, .int .i64 0, .int .i64 (-1)] 95)).alloc (.cells #[.slice none 0 0, .slice none 0 0] 65)) = w1 at *
  generalize hB : w.heap.size + 1 = B at *
  go_loopg [6] 3 (fun gk more wr => ∃ (b : Bool) (q : Q) (vs : List V3) (ao : Option Addr) (cap : Nat), more = .bool b ∧ RS B s q wr ∧ Ex B w wr ∧ wr.heap[B + 1]? = some (.cells #[.slice ao vs.length cap, .slice none 0 0] 65 (0, 0)) ∧ wr.heap[w.heap.size]? = some (.cells #[.slice none 0 0, .slice none 0 0] 65 (0, 0)) ∧ wr.ownsRow (B + 1) 139 3 (.slice ao vs.length cap) vs.length (vs.flatMap V3.cells) ∧ (∀ v ∈ vs, V3.Ok wr (B + 1) v) ∧ vs.length + gk = 3 ∧ LV s R1 gk b q vs)
  case atStart => exact ⟨true, .ok 0, [], none, 0, rfl, hb1, hX1, hC1, hM1, World.ownsRow_nil _ _ _ _, (fun _ h => by cases h), rfl, .inl ⟨rfl, by omega, ⟨0, rfl, Nat.zero_le _⟩, hR1⟩⟩
  case round =>
    clear hb1 hX1 hC1 hM1 hR1
    obtain ⟨b, q, vs, ao, cap, rfl, hbr, hXr, hCr, hMr, hor, hOk, hlen, hL⟩ := hrel
    cases b with
    | false =>
      have hE : ∃ RR, LR s RR 121 q [] ∧ (match RR with | (none, q3) => (none, q3) | (some rs, q3) => (some (vs.map V3.ast, rs), q3)) = (r, q') := by
        have hp := HP.out
        rcases hL with ⟨h, _⟩ | ⟨_, ⟨i, rfl, hi', rfl⟩ | ⟨p, rfl, rfl⟩⟩
        · cases h
        · exact ⟨_, .inl ⟨i, rfl, hi', by omega, rfl, by simp⟩, hp⟩
        · exact ⟨(none, .error p), .inr ⟨p, rfl, rfl⟩, hp⟩
      obtain ⟨RR, hLR, hp2⟩ := hE
      have HP2 : Aside (_ = (r, q')) := hp2
      have HL2 : Aside (LR s RR 121 q []) := hLR
      have HV3 : Aside (vs.length ≤ 3) := by show vs.length ≤ 3; omega
      have HKR : Aside (RS B s q wr ∧ Ex B w wr ∧ _ ∧ _ ∧ _ ∧ _) := ⟨hbr, hXr, hCr, hMr, hor, hOk⟩
      clear hp2 hLR hL hlen hbr hXr hCr hMr hor hOk HP hi hz0 hz1 hz2
      clear i0
      obtain ⟨i0, hi, hz0, hz1, hz2⟩ := info_parts Tryz.info89
      go_wp2_with fail
      obtain ⟨hbr, hXr, hCr, hMr, hor, hOk⟩ := HKR.out
      go_loopg [] 121 (fun gk wr => ∃ (q : Q) (rs : List R2) (aor : Option Addr) (capr : Nat), RS B s q wr ∧ Ex B w wr ∧ wr.heap[B + 1]? = some (.cells #[.slice ao vs.length cap, .slice aor rs.length capr] 65 (0, 0)) ∧ wr.heap[w.heap.size]? = some (.cells #[.slice none 0 0, .slice none 0 0] 65 (0, 0)) ∧ wr.ownsRow (B + 1) 139 3 (.slice ao vs.length cap) vs.length (vs.flatMap V3.cells) ∧ (∀ v ∈ vs, V3.Ok wr (B + 1) v) ∧ wr.ownsRow (B + 1) 146 2 (.slice aor rs.length capr) rs.length (rs.flatMap R2.cells) ∧ (∀ x ∈ rs, R2.Ok wr (B + 1) x) ∧ rs.length + gk ≤ 130 ∧ LR s RR gk q rs)
      case atStart => exact ⟨q, [], none, 0, hbr, hXr, hCr, hMr, hor, hOk, World.ownsRow_nil _ _ _ _, (fun _ h => by cases h), by simp, HL2.out⟩
      case round =>
        clear hbr hXr hCr hMr hor hOk HKR HL2
        clear q
        obtain ⟨q, rs, aor, capr, hbr, hXr, hCr, hMr, hov, hOkv, hor, hOkr, hlen, hL⟩ := hrel
        obtain ⟨k0, k1, kf⟩ := cell2 hCr
        obtain ⟨m0, m1, mf⟩ := cell2 hMr
        have lC := lt_of_block hCr
        have lM := lt_of_block hMr
        cases q with
        | error p =>
          have hrq : r = none ∧ q' = .error p := by
            rcases hL with ⟨i, h, _⟩ | ⟨p', h, rfl⟩
            · cases h
            · cases h
              have := HP2.out
              simp only [Prod.mk.injEq] at this
              exact ⟨this.1.symm, this.2.symm⟩
          obtain ⟨rfl, rfl⟩ := hrq
          have HFIN : Aside (ReadPost s w none (.error p) _ _) := read_fin hB hXr hMr hov hOkv hor hOkr HV3.out (by omega) (bad := (p : Int)) (.inl ⟨p, rfl, rfl, rfl⟩)
          obtain ⟨i', hile, hcc⟩ := hbr
          have c2 := hcc.c2
          have hd : ¬ ((p : Int) < 0) := by omega
          clear hcc hXr hCr hMr hov hOkv hor hOkr hL HP2 hlen
          go_wp2
          go_region
          all_goals
            go_wp2
            exact bodyPost_ret (v := .tuple #[.agg #[.slice ao vs.length cap, .slice aor rs.length capr], .int .i64 p]) (by simp [results, Tryz.results33, go_sem, m0, m1]) rfl HFIN.out
        | ok i =>
          have c1 := hbr.2.c1
          have c2 := hbr.2.c2
          have f2 := hbr.2.free 2
          have hile := hbr.1
          by_cases hlt : i < s.size
          · have hlt' : (i : Int) < (s.size : Int) := by omega
            obtain ⟨g', rfl, h8f, hnf, hyf⟩ := LR_step hs hL hlt
            by_cases h8 : rs.length = 8
            · have hRR := h8f h8
              have hrq : r = none ∧ q' = .error i := by
                have := HP2.out
                rw [hRR] at this
                simp only [Prod.mk.injEq] at this
                exact ⟨this.1.symm, this.2.symm⟩
              obtain ⟨rfl, rfl⟩ := hrq
              have HKK : Aside (RS B s (.ok i) wr ∧ Ex B w wr ∧ _ ∧ _ ∧ _ ∧ _ ∧ _ ∧ _) := ⟨hbr, hXr, hCr, hMr, hov, hOkv, hor, hOkr⟩
              have hc8 : ((rs.length : Int) == 8) = true := by simp; omega
              clear hXr hCr hMr hov hOkv hor hOkr hL HP2 h8f hnf hyf hRR m0 m1 mf h8
              go_wp2_with fail
              refine (fail_any hs hbr).mono ?_; rintro e w3 ⟨rfl, hb3, hx3⟩
              obtain ⟨_, hXr, hCr, hMr, hov, hOkv, hor, hOkr⟩ := HKK.out
              have hC3 := (hx3.block _ (lt_of_block hCr) (by omega)).trans hCr
              have hM3 := (hx3.block _ (lt_of_block hMr) (by omega)).trans hMr
              have HFIN : Aside (ReadPost s w none (.error i) _ _) := read_fin hB (hXr.trans hx3) hM3 (hx3.ownsRow (by omega) hov) (fun v h => hx3.okV (by omega) (hOkv v h)) (hx3.ownsRow (by omega) hor) (fun v h => hx3.okR (by omega) (hOkr v h)) HV3.out (by omega) (bad := (i : Int)) (.inl ⟨i, rfl, rfl, rfl⟩)
              obtain ⟨i', _, hcc⟩ := hb3
              have c2' := hcc.c2
              obtain ⟨n0, n1, nf⟩ := cell2 hC3
              obtain ⟨m0, m1, mf⟩ := cell2 hM3
              have lC3 := lt_of_block hC3
              clear hcc hXr hCr hMr hov hOkv hor hOkr HKK hC3 hM3 hx3 hbr c1 c2 k0 k1 kf
              go_wp2
              go_region
              all_goals
                go_wp2
                exact bodyPost_ret (v := .tuple #[.agg #[.slice ao vs.length cap, .slice aor rs.length capr], .int .i64 i]) (by simp [results, Tryz.results33, go_sem, m0, m1]) rfl HFIN.out
            · have hc8 : ((rs.length : Int) == 8) = false := by simp; omega
              cases h59 : num? s i 59 0 0 with
              | none =>
                have hRR := hnf h8 h59
                have hmu : qMust s (.ok i) 59 = .error i := by simp [qMust, qNum, h59, Q.fail]
                have HKK : Aside (Ex B w wr ∧ _ ∧ _ ∧ _ ∧ _ ∧ _ ∧ _) := ⟨hXr, hCr, hMr, hov, hOkv, hor, hOkr⟩
                have HRR : Aside (RR = _) := hRR
                clear hXr hCr hMr hov hOkv hor hOkr hL HP2 h8f hnf hyf hRR m0 m1 mf
                go_wp2_with fail
                refine (must_any 59 (by omega) hs (by omega) hbr).mono ?_; rintro e w3 ⟨rfl, hb3, hx3⟩
                rw [hmu] at hb3
                obtain ⟨hXr, hCr, hMr, hov, hOkv, hor, hOkr⟩ := HKK.out
                have FIN : Aside (RS B s (.error i) w3 ∧ Ex B w w3 ∧ _ ∧ _ ∧ _ ∧ _ ∧ _ ∧ _) := ⟨hb3, hXr.trans hx3, (hx3.block _ (lt_of_block hCr) (by omega)).trans hCr, (hx3.block _ (lt_of_block hMr) (by omega)).trans hMr, hx3.ownsRow (by omega) hov, fun v h => hx3.okV (by omega) (hOkv v h), hx3.ownsRow (by omega) hor, fun v h => hx3.okR (by omega) (hOkr v h)⟩
                obtain ⟨i', _, hcc⟩ := hb3
                have c2' := hcc.c2
                have hd : ¬ ((i : Int) < 0) := by omega
                clear hcc hXr hCr hMr hov hOkv hor hOkr HKK hx3 hbr c1 c2 k0 k1 kf hmu
                go_wp2
                go_roundg g'
                case measure => exact Nat.lt_succ_self _
                case rel =>
                  obtain ⟨f1, f2, f3, f4, f5, f6, f7, f8⟩ := FIN.out
                  exact ⟨.error i, rs, aor, capr, f1, f2, f3, f4, f5, f6, f7, f8, by omega, .inr ⟨i, rfl, HRR.out⟩⟩
              | some k59 =>
                cases hq : qRule s (.ok (i + 1)) with
                | mk rr qr =>
                have hst := hyf h8 k59 h59 rr qr hq
                have hmu : qMust s (.ok i) 59 = .ok (i + 1) := by simp [qMust, qNum, h59, Q.adv]
                have HKK : Aside (Ex B w wr ∧ _ ∧ _ ∧ _ ∧ _ ∧ _ ∧ _) := ⟨hXr, hCr, hMr, hov, hOkv, hor, hOkr⟩
                have HST : Aside _ := hst
                clear hXr hCr hMr hov hOkv hor hOkr hL HP2 h8f hnf hyf hst m0 m1 mf
                go_wp2_with fail
                refine (must_any 59 (by omega) hs (by omega) hbr).mono ?_; rintro e w2 ⟨rfl, hb2, hx2⟩
                rw [hmu] at hb2
                have c2' := hb2.2.c2
                clear c1 c2 k0 k1 kf hmu hbr
                go_wp2_with fail
                refine (rrule_any hs hb2 hq).mono ?_
                rintro e w3 ⟨⟨vi, vd, cl, dl, rfl, hvi, hvd, hast⟩, hb3, hx3⟩
                obtain ⟨aoi, capi, rfl⟩ := owned_slice' hvi
                obtain ⟨aod, capd, rfl⟩ := owned_slice' hvd
                have HAST : Aside (∀ y, rr = some y → y = (cl.map C7.ast, dl.map D7.ast) ∧ (∀ c ∈ cl, C7.Tied s c) ∧ ∀ c ∈ dl, D7.Tied s c) := hast
                obtain ⟨hXr, hCr, hMr, hov, hOkv, hor, hOkr⟩ := HKK.out
                have hx := hx2.trans hx3
                have hX3 := hXr.trans hx
                have hC3 := (hx.block _ (lt_of_block hCr) (by omega)).trans hCr
                have hM3 := (hx.block _ (lt_of_block hMr) (by omega)).trans hMr
                have hv3 := hx.ownsRow (by omega) hov
                have hOv3 : ∀ v ∈ vs, V3.Ok w3 (B + 1) v := fun v h => hx.okV (by omega) (hOkv v h)
                have ho3 := hx.ownsRow (by omega) hor
                have hl2 : B + 1 ≤ w2.heap.size := by have := hx2.size; omega
                have hOr3 : ∀ x ∈ rs ++ [⟨cl, dl, aoi, capi, aod, capd⟩], R2.Ok w3 (B + 1) x := by
                  intro v hv'
                  rcases List.mem_append.1 hv' with h | h
                  · exact hx.okR (by omega) (hOkr v h)
                  · simp at h; subst h
                    exact ⟨own_base hvi hl2, own_base hvd hl2⟩
                have HK : Aside (RS B s qr w3 ∧ Ex B w w3 ∧ _ ∧ _ ∧ _ ∧ _ ∧ _ ∧ _) := ⟨hb3, hX3, hC3, hM3, hv3, hOv3, ho3, hOr3⟩
                have k1 := (cell2 hC3).2.1
                have lC3 := lt_of_block hC3
                clear hast hXr hCr hMr hov hOkv hor hOkr HKK hx2 hx3 hx hX3 hC3 hM3 hv3 hOv3 ho3 hOr3 hb3 hb2 hvi hvd c2'
                go_wp2_with (at_builtin; refine wpList_append_own _ rfl _ _ 63 rfl (B + 1) 146 i0 _ 2 48 Tryz.underlying63 hi hz0 hz1 hz2 rfl (Nat.succ_pos 1) (.slice aor rs.length capr) rs.length (rs.flatMap R2.cells) rfl ((HK.out.2.2.2.2.2.2.1.alloc _).alloc _) ⟨w3.heap.size + 1, 0, none⟩ 1 1 (R2.cells ⟨cl, dl, aoi, capi, aod, capd⟩) rfl rfl (news_next _ _ _ _) (R2.one _) ?c3 ?c4 ?c5 ?_)
                case c3 => unfold maxLen; omega
                case c4 => omega
                case c5 => simp; omega
                intro v' w5 hown' hgrow _
                obtain ⟨g5, cap5, hv5⟩ := owned_form hown' (by omega)
                subst hv5
                obtain ⟨hb3, hX3, hC3, hM3, hv3, hOv3, ho3, hOr3⟩ := HK.out
                have hb5 := rs_kept hb3 ho3 (by omega) hgrow
                have hX5 : Ex B w w5 := ((hX3.alloc _).alloc _).grown hgrow (fun k hk => by have := (ho3.lt k hk).1; omega)
                have hC5 := blk_kept hC3 ho3 (by omega) hgrow
                have hM5 := blk_kept hM3 ho3 (by omega) hgrow
                have hv5 := ((hv3.alloc _).alloc _).kept hgrow (apart_of_types hv3 ho3 (by omega))
                have hOv5 : ∀ v ∈ vs, V3.Ok w5 (B + 1) v := fun v h => ⟨((((hOv3 v h).1.alloc _).alloc _).kept hgrow (apart_of_types (hOv3 v h).1 ho3 (by omega))), (hOv3 v h).2⟩
                have hOr5 : ∀ x ∈ rs ++ [⟨cl, dl, aoi, capi, aod, capd⟩], R2.Ok w5 (B + 1) x := fun v h => ⟨((((hOr3 v h).1.alloc _).alloc _).kept hgrow (apart_of_types (hOr3 v h).1 ho3 (by omega))), ((((hOr3 v h).2.alloc _).alloc _).kept hgrow (apart_of_types (hOr3 v h).2 ho3 (by omega)))⟩
                have hne5 : Value.ownBlock (.slice (some ⟨g5, 0, none⟩) (rs.length + 1) cap5) ≠ some (B + 1) := ne_block_of_type hown' hC5 (by omega)
                have HN : Aside (RS B s qr (w5.setCell ⟨B + 1, 1, none⟩ (.slice (some ⟨g5, 0, none⟩) (rs.length + 1) cap5)) ∧ Ex B w (w5.setCell ⟨B + 1, 1, none⟩ (.slice (some ⟨g5, 0, none⟩) (rs.length + 1) cap5)) ∧ _ ∧ _ ∧ _ ∧ (∀ v ∈ vs, V3.Ok (w5.setCell ⟨B + 1, 1, none⟩ (.slice (some ⟨g5, 0, none⟩) (rs.length + 1) cap5)) (B + 1) v) ∧ _ ∧ (∀ x ∈ rs ++ [⟨cl, dl, aoi, capi, aod, capd⟩], R2.Ok (w5.setCell ⟨B + 1, 1, none⟩ (.slice (some ⟨g5, 0, none⟩) (rs.length + 1) cap5)) (B + 1) x)) :=
                  ⟨hb5.set_other (p := ⟨B + 1, 1, none⟩) (by show B + 1 ≠ B; omega) (.slice (some ⟨g5, 0, none⟩) (rs.length + 1) cap5), hX5.setCell (p := ⟨B + 1, 1, none⟩) (.inr (by show w.heap.size ≤ B + 1; omega)) (.slice (some ⟨g5, 0, none⟩) (rs.length + 1) cap5), two_setCell1 (y := (.slice (some ⟨g5, 0, none⟩) (rs.length + 1) cap5)) hC5, (heap_setCell_other w5 ⟨B + 1, 1, none⟩ w.heap.size (.slice (some ⟨g5, 0, none⟩) (rs.length + 1) cap5) (by show w.heap.size ≠ B + 1; omega)).trans hM5,
                   ownsRow_setCell_other hv5 (a := ⟨B + 1, 1, none⟩) (ne_block_of_type hv5 hC5 (by omega)) (.slice (some ⟨g5, 0, none⟩) (rs.length + 1) cap5), fun v h => V3.set (hOv5 v h) hC5 (by omega) 1 (.slice (some ⟨g5, 0, none⟩) (rs.length + 1) cap5), own_snocR (ownsRow_setCell_other hown' (a := ⟨B + 1, 1, none⟩) hne5 (.slice (some ⟨g5, 0, none⟩) (rs.length + 1) cap5)), fun v h => R2.set (hOr5 v h) hC5 (by omega) (by omega) 1 (.slice (some ⟨g5, 0, none⟩) (rs.length + 1) cap5)⟩
                obtain ⟨k5', k5, kf⟩ := cell2 hC5
                clear k5'
                have lC5 := lt_of_block hC5
                clear HK hb3 hX3 hC3 hM3 hv3 hOv3 ho3 hOr3 hb5 hX5 hC5 hM5 hv5 hOv5 hOr5 hne5 hown' hgrow k1
                go_wp2
                rcases HST.out with ⟨rfl, p, rfl, hRR⟩ | ⟨x, j, rfl, rfl, hj, hf, hRR, hTr⟩
                · go_roundg g'
                  case measure => exact Nat.lt_succ_self _
                  case rel =>
                    obtain ⟨f1, f2, f3, f4, f5, f6, f7, f8⟩ := HN.out
                    exact ⟨.error p, rs ++ [⟨cl, dl, aoi, capi, aod, capd⟩], some ⟨g5, 0, none⟩, cap5, f1, f2, by simpa using f3, f4, f5, f6, by simpa using f7, f8, by simp; omega, .inr ⟨p, rfl, hRR⟩⟩
                · have hcc := (HAST.out x rfl).1
                  have hti := (HAST.out x rfl).2
                  go_roundg g'
                  case measure => exact Nat.lt_succ_self _
                  case rel =>
                    obtain ⟨f1, f2, f3, f4, f5, f6, f7, f8⟩ := HN.out
                    exact ⟨.ok j, rs ++ [⟨cl, dl, aoi, capi, aod, capd⟩], some ⟨g5, 0, none⟩, cap5, f1, f2, by simpa using f3, f4, f5, f6, by simpa using f7, f8, by simp; omega, .inl ⟨j, rfl, hj, hf, by rw [← hRR, hcc]; simp [R2.ast], tied_snoc (p := R2.Tied s) (a := (⟨cl, dl, aoi, capi, aod, capd⟩ : R2)) hTr hti⟩⟩
          · have hlt' : ¬ (i : Int) < (s.size : Int) := by omega
            have hrq : r = some (vs.map V3.ast, rs.map R2.ast) := by
              rcases hL with ⟨i', h, _, hf, hR, _⟩ | ⟨p', h, _⟩
              · cases h
                obtain ⟨g', rfl⟩ : ∃ g', gk = g' + 1 := ⟨gk - 1, by omega⟩
                unfold qRules at hR
                rw [if_neg hlt] at hR
                have := HP2.out
                rw [← hR] at this
                simp only [Prod.mk.injEq] at this
                exact this.1.symm
              · cases h
            have hTT : ∀ x ∈ rs, R2.Tied s x := by
              rcases hL with ⟨i', h, _, _, _, hT⟩ | ⟨p', h, _⟩
              · exact hT
              · cases h
            have HFIN : Aside (ReadPost s w r q' _ _) := read_fin hB hXr hMr hov hOkv hor hOkr HV3.out (by omega) (bad := -1) (.inr ⟨hrq, rfl, hTT⟩)
            clear hbr hXr hCr hMr hov hOkv hor hOkr hL HP2 hlen hrq hTT
            go_wp2
            go_region
            all_goals
              go_wp2
              exact bodyPost_ret (v := .tuple #[.agg #[.slice ao vs.length cap, .slice aor rs.length capr], .int .i64 (-1)]) (by simp [results, Tryz.results33, go_sem, m0, m1]) rfl HFIN.out
    | true =>
      cases hv : qVar s vs.length q with
      | mk rv qv =>
      obtain ⟨g', rfl, hlt3, hst⟩ := LV_step hL hlen hv
      have HST : Aside _ := hst
      have HL0 : Aside (vs.length + (g' + 1) = 3) := hlen
      have k0 := (cell2 hCr).1
      clear hst hL hlen
      go_wp2_with fail
      refine (rvar_any vs.length hlt3 hs hbr hv).mono ?_
      rintro e w3 ⟨⟨top, at_, vf, l, rfl, hvf, hl5, hat, hast⟩, hb3, hx3⟩
      obtain ⟨aof, capf, rfl⟩ := owned_slice' hvf
      have HAST : Aside (∀ y, rv = some y → y = (top, l, at_)) := hast
      have hX3 := hXr.trans hx3
      have hC3 := (hx3.block _ (lt_of_block hCr) (by omega)).trans hCr
      have hM3 := (hx3.block _ (lt_of_block hMr) (by omega)).trans hMr
      have ho3 := hx3.ownsRow (by omega) hor
      have hOk3 : ∀ v ∈ vs ++ [⟨top, at_, l, aof, capf⟩], V3.Ok w3 (B + 1) v := by
        intro v hv'
        rcases List.mem_append.1 hv' with h | h
        · exact hx3.okV (by omega) (hOk v h)
        · simp at h; subst h
          exact ⟨own_base hvf (by have := lt_of_block hCr; omega), hl5, hat⟩
      have HK : Aside (RS B s qv w3 ∧ Ex B w w3 ∧ _ ∧ _ ∧ _ ∧ _) := ⟨hb3, hX3, hC3, hM3, ho3, hOk3⟩
      clear k0
      have k0 := (cell2 hC3).1
      have lC := lt_of_block hC3
      clear hast hbr hXr hCr hMr hor hOk hx3 hX3 hC3 hM3 hb3 ho3 hOk3 hv hvf
      go_wp2_with (at_builtin; refine wpList_append_own _ rfl _ _ 62 rfl (B + 1) 139 i0 _ 3 40 Tryz.underlying62 hi hz0 hz1 hz2 rfl (Nat.succ_pos 2) (.slice ao vs.length cap) vs.length (vs.flatMap V3.cells) rfl ((HK.out.2.2.2.2.1.alloc _).alloc _) ⟨w3.heap.size + 1, 0, none⟩ 1 1 (V3.cells ⟨top, at_, l, aof, capf⟩) rfl rfl (news_next _ _ _ _) (V3.one _) ?c3 ?c4 ?c5 ?_)
      case c3 => unfold maxLen; omega
      case c4 => omega
      case c5 => simp; omega
      intro v' w5 hown' hgrow _
      obtain ⟨g5, cap5, hv5⟩ := owned_form hown' (by omega)
      subst hv5
      obtain ⟨hb3, hX3, hC3, hM3, ho3, hOk3⟩ := HK.out
      have hb5 := rs_kept hb3 ho3 (by omega) hgrow
      have hX5 : Ex B w w5 := ((hX3.alloc _).alloc _).grown hgrow (fun k hk => by have := (ho3.lt k hk).1; omega)
      have hC5 := blk_kept hC3 ho3 (by omega) hgrow
      have hM5 := blk_kept hM3 ho3 (by omega) hgrow
      have hOk5 : ∀ v ∈ vs ++ [⟨top, at_, l, aof, capf⟩], V3.Ok w5 (B + 1) v := fun v h => ⟨((((hOk3 v h).1.alloc _).alloc _).kept hgrow (apart_of_types (hOk3 v h).1 ho3 (by omega))), (hOk3 v h).2⟩
      have hne5 : Value.ownBlock (.slice (some ⟨g5, 0, none⟩) (vs.length + 1) cap5) ≠ some (B + 1) := ne_block_of_type hown' hC5 (by omega)
      have hb6 := hb5.set_other (p := ⟨B + 1, 0, none⟩) (by show B + 1 ≠ B; omega) (.slice (some ⟨g5, 0, none⟩) (vs.length + 1) cap5)
      have hX6 := hX5.setCell (p := ⟨B + 1, 0, none⟩) (.inr (by show w.heap.size ≤ B + 1; omega)) (.slice (some ⟨g5, 0, none⟩) (vs.length + 1) cap5)
      have hC6 := two_setCell0 (y := (.slice (some ⟨g5, 0, none⟩) (vs.length + 1) cap5)) hC5
      have hM6 := (heap_setCell_other w5 ⟨B + 1, 0, none⟩ w.heap.size (.slice (some ⟨g5, 0, none⟩) (vs.length + 1) cap5) (by show w.heap.size ≠ B + 1; omega)).trans hM5
      have ho6 := own_snocV (ownsRow_setCell_other hown' (a := ⟨B + 1, 0, none⟩) hne5 (.slice (some ⟨g5, 0, none⟩) (vs.length + 1) cap5))
      have hOk6 : ∀ v ∈ vs ++ [⟨top, at_, l, aof, capf⟩], V3.Ok (w5.setCell ⟨B + 1, 0, none⟩ (.slice (some ⟨g5, 0, none⟩) (vs.length + 1) cap5)) (B + 1) v := fun v h => V3.set (hOk5 v h) hC5 (by omega) 0 (.slice (some ⟨g5, 0, none⟩) (vs.length + 1) cap5)
      have HN : Aside (RS B s qv _ ∧ Ex B w _ ∧ _ ∧ _ ∧ _ ∧ _) := ⟨hb6, hX6, hC6, hM6, ho6, hOk6⟩
      obtain ⟨k5, k5', kf⟩ := cell2 hC5
      clear k5'
      have lC5 := lt_of_block hC5
      have k6 := (cell2 hC6).1
      clear HK hb3 hX3 hC3 hM3 ho3 hOk3 hb5 hX5 hC5 hM5 hOk5 hne5 hb6 hX6 hC6 hM6 ho6 hOk6 hown' hgrow k0
      by_cases hn3 : vs.length + 1 < 3
      · have hn3' : ((vs.length : Int) + 1) < 3 := by omega
        go_wp2_with fail
        obtain ⟨hb6, hX6, hC6, hM6, ho6, hOk6⟩ := HN.out
        generalize w5.setCell ⟨B + 1, 0, none⟩ (.slice (some ⟨g5, 0, none⟩) (vs.length + 1) cap5) = w6 at *
        clear HN k5 kf lC5 lC k6
        rcases HST.out with ⟨rfl, p, rfl, hRR⟩ | ⟨v, j, rfl, rfl, hj, hno, hyes, _⟩
        · refine (got_no 44 hs (by omega) hb6 rfl).mono ?_; rintro e w7 ⟨rfl, hb7, hx7⟩
          have FIN : Aside (RS B s (.error p) w7 ∧ Ex B w w7 ∧ _ ∧ _ ∧ _ ∧ _) := ⟨hb7, hX6.trans hx7, (hx7.block _ (lt_of_block hC6) (by omega)).trans hC6, (hx7.block _ (lt_of_block hM6) (by omega)).trans hM6, hx7.ownsRow (by omega) ho6, fun v h => hx7.okV (by omega) (hOk6 v h)⟩
          have HRR : Aside (R1 = _) := hRR
          clear hb6 hX6 hC6 hM6 ho6 hOk6 hb7 hx7 HST hRR
          go_wp2
          go_roundg g'
          case measure => exact Nat.lt_succ_self _
          case rel =>
            obtain ⟨f1, f2, f3, f4, f5, f6⟩ := FIN.out
            exact ⟨false, .error p, vs ++ [⟨top, at_, l, aof, capf⟩], some ⟨g5, 0, none⟩, cap5, rfl, f1, f2, by simpa using f3, f4, by simpa using f5, f6, by have := HL0.out; simp; omega, .inr ⟨rfl, .inr ⟨p, rfl, HRR.out⟩⟩⟩
        · have hcc := HAST.out v rfl
          cases hg : qNum s (.ok j) 44 0 with
          | none =>
            have hRR := hno hn3 hg
            refine (got_no 44 hs (by omega) hb6 hg).mono ?_; rintro e w7 ⟨rfl, hb7, hx7⟩
            have FIN : Aside (RS B s (.ok j) w7 ∧ Ex B w w7 ∧ _ ∧ _ ∧ _ ∧ _) := ⟨hb7, hX6.trans hx7, (hx7.block _ (lt_of_block hC6) (by omega)).trans hC6, (hx7.block _ (lt_of_block hM6) (by omega)).trans hM6, hx7.ownsRow (by omega) ho6, fun v h => hx7.okV (by omega) (hOk6 v h)⟩
            have HRR : Aside (R1 = _) := hRR
            have HCC : Aside (v = _) := hcc
            clear hb6 hX6 hC6 hM6 ho6 hOk6 hb7 hx7 HST hRR hcc hno hyes hg
            go_wp2
            go_roundg g'
            case measure => exact Nat.lt_succ_self _
            case rel =>
              obtain ⟨f1, f2, f3, f4, f5, f6⟩ := FIN.out
              exact ⟨false, .ok j, vs ++ [⟨top, at_, l, aof, capf⟩], some ⟨g5, 0, none⟩, cap5, rfl, f1, f2, by simpa using f3, f4, by simpa using f5, f6, by have := HL0.out; simp; omega, .inr ⟨rfl, .inl ⟨j, rfl, hj, by rw [HRR.out, HCC.out]; simp [V3.ast]⟩⟩⟩
          | some kk =>
            obtain ⟨hg1, hjl, hRR⟩ := hyes hn3 kk hg
            refine (got_yes 44 kk hs (by omega) hb6 hg).mono ?_; rintro e w7 ⟨rfl, hb7, hx7⟩
            have FIN : Aside (RS B s (.ok (j + 1)) w7 ∧ Ex B w w7 ∧ _ ∧ _ ∧ _ ∧ _) := ⟨hb7, hX6.trans hx7, (hx7.block _ (lt_of_block hC6) (by omega)).trans hC6, (hx7.block _ (lt_of_block hM6) (by omega)).trans hM6, hx7.ownsRow (by omega) ho6, fun v h => hx7.okV (by omega) (hOk6 v h)⟩
            have HRR : Aside (_ = R1) := hRR
            have HCC : Aside (v = _) := hcc
            clear hb6 hX6 hC6 hM6 ho6 hOk6 hb7 hx7 HST hRR hcc hno hyes hg
            go_wp2
            go_roundg g'
            case measure => exact Nat.lt_succ_self _
            case rel =>
              obtain ⟨f1, f2, f3, f4, f5, f6⟩ := FIN.out
              exact ⟨true, .ok (j + 1), vs ++ [⟨top, at_, l, aof, capf⟩], some ⟨g5, 0, none⟩, cap5, rfl, f1, f2, by simpa using f3, f4, by simpa using f5, f6, by have := HL0.out; simp; omega, .inl ⟨rfl, hg1, ⟨j + 1, rfl, hjl⟩, by rw [← HRR.out, HCC.out]; simp [V3.ast]⟩⟩
      · have hn3' : ¬ ((vs.length : Int) + 1) < 3 := by omega
        go_wp2
        obtain ⟨hb6, hX6, hC6, hM6, ho6, hOk6⟩ := HN.out
        rcases HST.out with ⟨rfl, p, rfl, hRR⟩ | ⟨v, j, rfl, rfl, hj, _, _, hend⟩
        · go_roundg g'
          case measure => exact Nat.lt_succ_self _
          case rel => exact ⟨false, .error p, vs ++ [⟨top, at_, l, aof, capf⟩], some ⟨g5, 0, none⟩, cap5, rfl, hb6, hX6, by simpa using hC6, hM6, by simpa using ho6, hOk6, by have := HL0.out; simp; omega, .inr ⟨rfl, .inr ⟨p, rfl, hRR⟩⟩⟩
        · have hcc := HAST.out v rfl
          have hRR := hend hn3
          go_roundg g'
          case measure => exact Nat.lt_succ_self _
          case rel => exact ⟨false, .ok j, vs ++ [⟨top, at_, l, aof, capf⟩], some ⟨g5, 0, none⟩, cap5, rfl, hb6, hX6, by simpa using hC6, hM6, by simpa using ho6, hOk6, by have := HL0.out; simp; omega, .inr ⟨rfl, .inl ⟨j, rfl, hj, by rw [hRR, hcc]; simp [V3.ast]⟩⟩⟩
end
end Go.Proofs.YtgoebckimmofoaaGreatDoor

/- What is wrong with a change, with a condition. Our own text. -/
namespace Go.Proofs.YtgoebckimmofoaaGreatDoor
open Go.RowKit

theorem flat_get {α : Type} (f : α → List Value) (z : Nat) (hf : ∀ a, (f a).length = z) : ∀ (l : List α) (k j : Nat) (hk : k < l.length), j < z → (l.flatMap f)[k * z + j]? = (f (l[k]))[j]?
  | [], k, j, hk, _ => by simp at hk
  | a :: l, 0, j, _, hj => by
    rw [List.flatMap_cons, Nat.zero_mul, Nat.zero_add, List.getElem?_append_left (by rw [hf]; exact hj)]
    rfl
  | a :: l, k + 1, j, hk, hj => by
    have ih := flat_get f z hf l k j (by simpa using hk) hj
    rw [List.flatMap_cons, List.getElem?_append_right (by rw [hf, Nat.succ_mul]; omega), hf]
    have e : (k + 1) * z + j - z = k * z + j := by rw [Nat.succ_mul]; omega
    rw [e, ih]
    rfl
theorem row_at {α : Type} {w : World} {base e z : Nat} {ao : Option Addr} {cap : Nat} {l : List α} {f : α → List Value} (hf : ∀ a, (f a).length = z) (h : w.ownsRow base e z (.slice ao l.length cap) l.length (l.flatMap f)) (hl : 0 < l.length) :
    ∃ g, ao = some ⟨g, 0, none⟩ ∧ base ≤ g ∧ g < w.heap.size ∧ l.length ≤ cap ∧ ∀ k (hk : k < l.length) j, j < z → w.cell? ⟨g, k * z + j, none⟩ = (f (l[k]))[j]? := by
  rcases h.2 with ⟨_, h0⟩ | ⟨g, cap', cur, hv, hb, hg, hc, _⟩
  · omega
  · cases hv
    refine ⟨g, rfl, hb, lt_of_block hg, hc, ?_⟩
    intro k hk j hj
    have hx := flat_get f z hf l k j hk hj
    have hlen : j < (f (l[k])).length := by rw [hf]; exact hj
    rw [List.getElem?_eq_getElem hlen]
    rw [List.getElem?_eq_getElem hlen] at hx
    have hc := h.cells (g := g) rfl (k * z + j) _ hx
    have hadd : (⟨g, 0, none⟩ : Addr).add (k * z + j) = ⟨g, k * z + j, none⟩ := by unfold Addr.add; split <;> simp_all
    rw [hadd] at hc
    exact hc
def unnamed (n : Nat) (a b : Tm) : Int := if (n : Int) ≤ a.1 then a.2.2 else if (n : Int) ≤ b.1 then b.2.2 else -1

section
variable {w : World}
set_option maxRecDepth 100000 in
set_option maxHeartbeats 800000 in
theorem unnamed_any (n : Nat) (a b : Tm) (ao aor : Option Addr) (cap nr capr : Nat) :
    Calls Tryz.prog 66 #[.agg #[.slice ao n cap, .slice aor nr capr], .agg #[.int .i64 a.1, .int .i64 a.2.1, .int .i64 a.2.2], .agg #[.int .i64 b.1, .int .i64 b.2.1, .int .i64 b.2.2]] w fun e w' => e = .returned (.int .i64 (unnamed n a b)) ∧ Below w.heap.size w w' := by
  obtain ⟨a0, a1, a2⟩ := a
  obtain ⟨b0, b1, b2⟩ := b
  unfold unnamed
  simp only
  by_cases h1 : (n : Int) ≤ a0
  · rw [if_pos h1]
    go_enter Tryz.func66, Tryz.ntmps66
    go_wp2
    go_ret
    exact ⟨rfl, (((Below.refl _ _).alloc (Nat.le_refl _) _).alloc (by simp) _).alloc (by simp; omega) _⟩
  · rw [if_neg h1]
    by_cases h2 : (n : Int) ≤ b0
    · rw [if_pos h2]
      go_enter Tryz.func66, Tryz.ntmps66
      go_wp2
      go_ret
      exact ⟨rfl, (((Below.refl _ _).alloc (Nat.le_refl _) _).alloc (by simp) _).alloc (by simp; omega) _⟩
    · rw [if_neg h2]
      go_enter Tryz.func66, Tryz.ntmps66
      go_wp2
      go_ret
      exact ⟨rfl, (((Below.refl _ _).alloc (Nat.le_refl _) _).alloc (by simp) _).alloc (by simp; omega) _⟩

def twiceP (n : Nat) (dl : List Chg) (c : Chg) : Nat × Int :=
  if (n : Int) ≤ c.1 then (3, c.2.1) else if dl.any (fun d => decide (d.1 = c.1)) then (5, c.2.1) else if c.2.2.1 = false ∧ (n : Int) ≤ c.2.2.2.1 then (3, c.2.2.2.2.2) else (0, 0)

theorem own_len {w : World} {b e z n : Nat} {v : Value} {xs : List Value} (h : w.ownsRow b e z v n xs) : n ≤ 9223372036854775807 := by
  rcases h.2 with ⟨_, rfl⟩ | ⟨g, cap, _, _, _, _, h1, h2, _⟩
  · omega
  · unfold maxLen at h2; omega
theorem D7.len (c : D7) : c.cells.length = 7 := rfl
set_option maxRecDepth 100000 in
set_option maxHeartbeats 1600000 in
theorem twice_any (n k : Nat) (dl : List D7) (ao aor aoi aod : Option Addr) (cap nr capr ni capi capd base : Nat) (hk : k < dl.length) (hl : dl.length ≤ 9223372036854775807) (_hb : base ≤ w.heap.size)
    (ho : w.ownsRow base 198 7 (.slice aod dl.length capd) dl.length (dl.flatMap D7.cells)) :
    Calls Tryz.prog 93 #[.agg #[.slice ao n cap, .slice aor nr capr], .agg #[.slice aoi ni capi, .slice aod dl.length capd], .int .i64 k] w fun e w' => e = .returned (.tuple #[.int .i64 ((twiceP n ((dl.take k).map D7.ast) (dl[k]).ast).1 : Nat), .int .i64 (twiceP n ((dl.take k).map D7.ast) (dl[k]).ast).2]) ∧ Below w.heap.size w w' := by
  obtain ⟨g, rfl, hg1, hg2, hcap, hcell⟩ := row_at D7.len ho (by omega)
  have q0 := hcell k hk 0 (by omega)
  have q1 := hcell k hk 1 (by omega)
  have q2 := hcell k hk 2 (by omega)
  have q3 := hcell k hk 3 (by omega)
  have q4 := hcell k hk 4 (by omega)
  have q5 := hcell k hk 5 (by omega)
  have q6 := hcell k hk 6 (by omega)
  obtain ⟨c, hc⟩ : ∃ c, c = dl[k] := ⟨_, rfl⟩
  rw [← hc] at q0 q1 q2 q3 q4 q5 q6 ⊢
  simp only [D7.cells, List.getElem?_cons_zero, List.getElem?_cons_succ, Nat.add_zero] at q0 q1 q2 q3 q4 q5 q6
  have HC : Hid (∀ k (hk : k < dl.length) j, j < 7 → w.cell? ⟨g, k * 7 + j, none⟩ = (D7.cells (dl[k]))[j]?) := hcell
  have HE : Hid (c = dl[k]) := hc
  have k0 : (0 : Int) ≤ (k : Int) := by omega
  have k1 : (k : Int) < (dl.length : Int) := by omega
  clear hcell hc ho
  have hA : (((w.alloc (.cells #[.slice ao n cap, .slice aor nr capr] 65)).alloc (.cells #[.slice aoi ni capi, .slice (some ⟨g, 0, none⟩) dl.length capd] 146)).alloc (.cells #[.int .i64 c.v, .int .i64 c.at_, .int .i64 c.t0, .int .i64 c.t1, .int .i64 c.t2, .int .i64 c.more, .bool c.any] 198)).heap[w.heap.size]? = some (.cells #[.slice ao n cap, .slice aor nr capr] 65 (0, 0)) := by
    rw [Below.heap_alloc _ _ _ (by simp; omega), Below.heap_alloc _ _ _ (by simp), heap_alloc_new]
  have hR : (((w.alloc (.cells #[.slice ao n cap, .slice aor nr capr] 65)).alloc (.cells #[.slice aoi ni capi, .slice (some ⟨g, 0, none⟩) dl.length capd] 146)).alloc (.cells #[.int .i64 c.v, .int .i64 c.at_, .int .i64 c.t0, .int .i64 c.t1, .int .i64 c.t2, .int .i64 c.more, .bool c.any] 198)).heap[w.heap.size + 1]? = some (.cells #[.slice aoi ni capi, .slice (some ⟨g, 0, none⟩) dl.length capd] 146 (0, 0)) := by
    rw [Below.heap_alloc _ _ _ (by simp)]
    have := heap_alloc_new (w.alloc (.cells #[.slice ao n cap, .slice aor nr capr] 65)) (.cells #[.slice aoi ni capi, .slice (some ⟨g, 0, none⟩) dl.length capd] 146)
    simpa using this
  have hD : (((w.alloc (.cells #[.slice ao n cap, .slice aor nr capr] 65)).alloc (.cells #[.slice aoi ni capi, .slice (some ⟨g, 0, none⟩) dl.length capd] 146)).alloc (.cells #[.int .i64 c.v, .int .i64 c.at_, .int .i64 c.t0, .int .i64 c.t1, .int .i64 c.t2, .int .i64 c.more, .bool c.any] 198)).heap[w.heap.size + 1 + 1]? = some (.cells #[.int .i64 c.v, .int .i64 c.at_, .int .i64 c.t0, .int .i64 c.t1, .int .i64 c.t2, .int .i64 c.more, .bool c.any] 198 (0, 0)) := by
    have := heap_alloc_new ((w.alloc (.cells #[.slice ao n cap, .slice aor nr capr] 65)).alloc (.cells #[.slice aoi ni capi, .slice (some ⟨g, 0, none⟩) dl.length capd] 146)) (.cells #[.int .i64 c.v, .int .i64 c.at_, .int .i64 c.t0, .int .i64 c.t1, .int .i64 c.t2, .int .i64 c.more, .bool c.any] 198)
    simpa using this
  have hBel : Below w.heap.size w (((w.alloc (.cells #[.slice ao n cap, .slice aor nr capr] 65)).alloc (.cells #[.slice aoi ni capi, .slice (some ⟨g, 0, none⟩) dl.length capd] 146)).alloc (.cells #[.int .i64 c.v, .int .i64 c.at_, .int .i64 c.t0, .int .i64 c.t1, .int .i64 c.t2, .int .i64 c.more, .bool c.any] 198)) := (((Below.refl _ _).alloc (Nat.le_refl _) _).alloc (by simp) _).alloc (by simp; omega) _
  have hRow : ∀ i (hi : i < dl.length), (((w.alloc (.cells #[.slice ao n cap, .slice aor nr capr] 65)).alloc (.cells #[.slice aoi ni capi, .slice (some ⟨g, 0, none⟩) dl.length capd] 146)).alloc (.cells #[.int .i64 c.v, .int .i64 c.at_, .int .i64 c.t0, .int .i64 c.t1, .int .i64 c.t2, .int .i64 c.more, .bool c.any] 198)).cell? ⟨g, i * 7, none⟩ = some (.int .i64 (dl[i]).v) := by
    intro i hi
    rw [hBel.cell (p := ⟨g, i * 7, none⟩) hg2]
    have := HC.out i hi 0 (by omega)
    simpa [D7.cells] using this
  generalize hP : twiceP n ((dl.take k).map D7.ast) c.ast = P
  unfold twiceP at hP
  have hast : c.ast = (c.v, c.at_, c.any, (c.t0, c.t1, c.t2)) := rfl
  rw [hast] at hP
  simp only at hP
  by_cases h1 : (n : Int) ≤ c.v
  · rw [if_pos h1] at hP
    subst hP
    have HB : Hid (Below w.heap.size w (((w.alloc (.cells #[.slice ao n cap, .slice aor nr capr] 65)).alloc (.cells #[.slice aoi ni capi, .slice (some ⟨g, 0, none⟩) dl.length capd] 146)).alloc (.cells #[.int .i64 c.v, .int .i64 c.at_, .int .i64 c.t0, .int .i64 c.t1, .int .i64 c.t2, .int .i64 c.more, .bool c.any] 198))) := hBel
    clear hA hR hD hBel hRow
    go_enter Tryz.func93, Tryz.ntmps93
    go_wp2_with fail
    go_quiet (fail)
    go_wp2
    go_ret2
    first | exact ⟨rfl, below_drewN HB.out _⟩ | exact ⟨rfl, below_drewN (below_drewN HB.out _) _⟩ | exact ⟨rfl, below_drewN (below_drewN (below_drewN HB.out _) _) _⟩
  · rw [if_neg h1] at hP
    have h1' : ¬ ((n : Int) ≤ c.v) := h1
    have HP : Hid (_ = P) := hP
    obtain ⟨n0, n1, nf⟩ := cell2 hA
    obtain ⟨r0, r1, rf⟩ := cell2 hR
    obtain ⟨⟨d0, d1, d2, d3, d4, d5, d6⟩, df⟩ := blk7 hD
    have HRow : Hid (∀ i (hi : i < dl.length), (((w.alloc (.cells #[.slice ao n cap, .slice aor nr capr] 65)).alloc (.cells #[.slice aoi ni capi, .slice (some ⟨g, 0, none⟩) dl.length capd] 146)).alloc (.cells #[.int .i64 c.v, .int .i64 c.at_, .int .i64 c.t0, .int .i64 c.t1, .int .i64 c.t2, .int .i64 c.more, .bool c.any] 198)).cell? ⟨g, i * 7, none⟩ = some (.int .i64 (dl[i]).v)) := hRow
    have HB : Hid (Below w.heap.size w (((w.alloc (.cells #[.slice ao n cap, .slice aor nr capr] 65)).alloc (.cells #[.slice aoi ni capi, .slice (some ⟨g, 0, none⟩) dl.length capd] 146)).alloc (.cells #[.int .i64 c.v, .int .i64 c.at_, .int .i64 c.t0, .int .i64 c.t1, .int .i64 c.t2, .int .i64 c.more, .bool c.any] 198))) := hBel
    clear hA hR hD hBel hRow nf rf df hP
    go_enter Tryz.func93, Tryz.ntmps93
    go_wp2_with fail
    clear q0 q1 q2 q3 q4 q5 q6
    generalize (((w.alloc (.cells #[.slice ao n cap, .slice aor nr capr] 65)).alloc (.cells #[.slice aoi ni capi, .slice (some ⟨g, 0, none⟩) dl.length capd] 146)).alloc (.cells #[.int .i64 c.v, .int .i64 c.at_, .int .i64 c.t0, .int .i64 c.t1, .int .i64 c.t2, .int .i64 c.more, .bool c.any] 198)) = w3 at *
    go_loopg [9] k (fun gk iv wr => ∃ i m : Nat, iv = .int .i64 i ∧ i + gk = k ∧ wr = w3.drewN m ∧ ∀ j (hj : j < dl.length), j < i → (dl[j]).v ≠ c.v)
    case atStart => exact ⟨0, 0, rfl, by omega, rfl, fun j _ h => by omega⟩
    case round =>
      obtain ⟨i, m, rfl, hik, rfl, hall⟩ := hrel
      by_cases hlt : i < k
      · have hlt' : (i : Int) < (k : Int) := by omega
        have i0 : (0 : Int) ≤ (i : Int) := by omega
        have i1 : (i : Int) < (dl.length : Int) := by omega
        have hrow := HRow.out i (by omega)
        have HALL : Hid (∀ j (hj : j < dl.length), j < i → (dl[j]).v ≠ c.v) := hall
        clear hall
        by_cases heq : (dl[i]'(by omega)).v = c.v
        · have HPE : Hid (P = (5, c.at_)) := by
            have := HP.out
            rw [if_pos] at this
            · exact this.symm
            · rw [List.any_eq_true]
              refine ⟨(dl[i]'(by omega)).ast, ?_, by simp [D7.ast, heq]⟩
              rw [List.mem_map]
              refine ⟨dl[i]'(by omega), ?_, rfl⟩
              rw [List.mem_iff_getElem]
              exact ⟨i, by simp; omega, by simp⟩
          rw [heq] at hrow
          clear heq
          go_wp2_with fail
          go_quiet (fail)
          go_wp2_with fail
          go_quiet (fail)
          go_wp2
          go_ret2
          rw [HPE.out]
          first | exact ⟨rfl, below_drewN HB.out _⟩ | exact ⟨rfl, below_drewN (below_drewN HB.out _) _⟩ | exact ⟨rfl, below_drewN (below_drewN (below_drewN HB.out _) _) _⟩
        · have heq' : (((dl[i]'(by omega)).v) == c.v) = false := by simpa using heq
          have HEQ : Hid ((dl[i]'(by omega)).v ≠ c.v) := heq
          clear heq
          obtain ⟨g', rfl⟩ : ∃ g', gk = g' + 1 := ⟨gk - 1, by omega⟩
          go_wp2_with fail
          go_quiet (fail)
          go_wp2
          go_roundg g'
          case measure => exact Nat.lt_succ_self _
          case rel =>
            refine ⟨i + 1, _, by go_num, by omega, rfl, ?_⟩
            intro j hj hji
            by_cases h : j = i
            · subst h; exact HEQ.out
            · exact HALL.out j hj (by omega)
      · have hik' : i = k := by omega
        subst hik'
        have hany : ¬ ((dl.take i).map D7.ast).any (fun d => decide (d.1 = c.v)) = true := by
          rw [List.any_eq_true]
          rintro ⟨x, hx, hxc⟩
          rw [List.mem_map] at hx
          obtain ⟨d, hd, rfl⟩ := hx
          rw [List.mem_iff_getElem] at hd
          obtain ⟨j, hj, rfl⟩ := hd
          have hj' : j < i := by simp at hj; omega
          refine hall j (by omega) hj' ?_
          simpa [D7.ast] using hxc
        have hP2 := HP.out
        rw [if_neg hany] at hP2
        have HP2 : Hid (_ = P) := hP2
        clear hP2 hany hall HP
        cases hca : c.any with
        | true =>
          rw [hca] at d6
          have HPE : Hid (P = (0, 0)) := by
            have := HP2.out; rw [if_neg (by rw [hca]; simp)] at this; exact this.symm
          clear hca
          go_wp2
          go_ret2
          rw [HPE.out]
          first | exact ⟨rfl, below_drewN HB.out _⟩ | exact ⟨rfl, below_drewN (below_drewN HB.out _) _⟩ | exact ⟨rfl, below_drewN (below_drewN (below_drewN HB.out _) _) _⟩
        | false =>
          rw [hca] at d6
          by_cases ht : (n : Int) ≤ c.t0
          · have HPE : Hid (P = (3, c.t2)) := by
              have := HP2.out; rw [if_pos ⟨hca, ht⟩] at this; exact this.symm
            clear hca
            go_wp2_with fail
            go_quiet (fail)
            go_wp2
            go_ret2
            rw [HPE.out]
            first | exact ⟨rfl, below_drewN HB.out _⟩ | exact ⟨rfl, below_drewN (below_drewN HB.out _) _⟩ | exact ⟨rfl, below_drewN (below_drewN (below_drewN HB.out _) _) _⟩
          · have HPE : Hid (P = (0, 0)) := by
              have := HP2.out; rw [if_neg (fun h => ht h.2)] at this; exact this.symm
            clear hca
            go_wp2
            go_ret2
            rw [HPE.out]
            first | exact ⟨rfl, below_drewN HB.out _⟩ | exact ⟨rfl, below_drewN (below_drewN HB.out _) _⟩ | exact ⟨rfl, below_drewN (below_drewN (below_drewN HB.out _) _) _⟩
end
end Go.Proofs.YtgoebckimmofoaaGreatDoor

namespace Go.Proofs.YtgoebckimmofoaaGreatDoor
open Go.RowKit

def fb (top at_ : Nat) : List Nat → Nat → Option (Nat × Int)
  | [], _ => none
  | x :: l, k => if top < x then some (4, ((at_ + k : Nat) : Int)) else fb top at_ l (k + 1)
def wc (n : Nat) : List (Tm × Tm) → Option (Nat × Int)
  | [] => none
  | c :: l => if 0 ≤ unnamed n c.1 c.2 then some (3, unnamed n c.1 c.2) else wc n l
def wd (n : Nat) : List Chg → List Chg → Option (Nat × Int)
  | _, [] => none
  | pre, c :: l => if (twiceP n pre c).1 = 0 then wd n (pre ++ [c]) l else some (twiceP n pre c)
def wv : List VA → Option (Nat × Int)
  | [] => none
  | v :: l => match fb v.1 v.2.2 v.2.1 0 with
    | some x => some x
    | none => wv l
def wr (n : Nat) : List RA → Option (Nat × Int)
  | [] => none
  | r :: l => match wc n r.1 with
    | some x => some x
    | none => match wd n [] r.2 with
      | some x => some x
      | none => wr n l
def orP (a : Option (Nat × Int)) (b : Nat × Int) : Nat × Int := match a with
  | some x => x
  | none => b
def wrongP (vs : List VA) (rs : List RA) : Nat × Int := orP (wv vs) (orP (wr vs.length rs) (0, 0))
theorem orP_fb (top at_ x k : Nat) (l : List Nat) (b : Nat × Int) : orP (fb top at_ (x :: l) k) b = if top < x then (4, ((at_ + k : Nat) : Int)) else orP (fb top at_ l (k + 1)) b := by
  rw [fb]; split <;> rfl
theorem orP_wv (v : VA) (l : List VA) (b : Nat × Int) : orP (wv (v :: l)) b = orP (fb v.1 v.2.2 v.2.1 0) (orP (wv l) b) := by
  rw [wv]; cases fb v.1 v.2.2 v.2.1 0 <;> rfl
theorem orP_wr (n : Nat) (r : RA) (l : List RA) (b : Nat × Int) : orP (wr n (r :: l)) b = orP (wc n r.1) (orP (wd n [] r.2) (orP (wr n l) b)) := by
  rw [wr]; cases wc n r.1 <;> cases wd n [] r.2 <;> rfl
theorem orP_wc (n : Nat) (c : Tm × Tm) (l : List (Tm × Tm)) (b : Nat × Int) : orP (wc n (c :: l)) b = if 0 ≤ unnamed n c.1 c.2 then (3, unnamed n c.1 c.2) else orP (wc n l) b := by
  rw [wc]; split <;> rfl
theorem orP_wd (n : Nat) (pre : List Chg) (c : Chg) (l : List Chg) (b : Nat × Int) : orP (wd n pre (c :: l)) b = if (twiceP n pre c).1 = 0 then orP (wd n (pre ++ [c]) l) b else twiceP n pre c := by
  rw [wd]; split <;> rfl
theorem V3.len (v : V3) : v.cells.length = 3 := rfl
theorem R2.len (v : R2) : v.cells.length = 2 := rfl
theorem C7.len (v : C7) : v.cells.length = 7 := rfl
theorem drop_map {α β : Type} (f : α → β) (l : List α) (i : Nat) (h : i < l.length) : (l.map f).drop i = f l[i] :: (l.map f).drop (i + 1) := by
  rw [List.drop_eq_getElem_cons (by simpa using h)]; simp
theorem ints_at {w : World} {base : Nat} {ao : Option Addr} {cap : Nat} {l : List Nat} (h : w.ownsRow base 3 1 (.slice ao l.length cap) l.length (ints l)) (hl : 0 < l.length) : ∃ g, ao = some ⟨g, 0, none⟩ ∧ base ≤ g ∧ g < w.heap.size ∧ l.length ≤ cap ∧ ∀ k (hk : k < l.length), w.cell? ⟨g, k, none⟩ = some (.int .i64 (l[k] : Nat)) := by
  have e : ints l = l.flatMap (fun n : Nat => [Value.int .i64 (n : Int)]) := by
    unfold ints; rw [List.map_eq_flatMap]
  rw [e] at h
  obtain ⟨g, h1, h2, h3, h4, h5⟩ := row_at (z := 1) (fun _ => rfl) h hl
  exact ⟨g, h1, h2, h3, h4, fun k hk => by have := h5 k hk 0 (by omega); simpa using this⟩

end Go.Proofs.YtgoebckimmofoaaGreatDoor
