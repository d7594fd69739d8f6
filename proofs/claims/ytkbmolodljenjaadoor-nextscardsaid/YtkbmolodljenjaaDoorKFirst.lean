/- The code's First and Next. Our own text. -/
import Derived.Test.YtkbmolodljenjaaDoorKGood
import Derived.Test.YtkbmolodljenjaaDoorEqN2
import Derived.Test.YtkbmolodljenjaaDoorMTexts
import Derived.Test.YtkbmolodljenjaaDoorMState
import Derived.Test.YtkbmolodljenjaaDoorMNext
import Derived.Test.YtkbmolodljenjaaDoorRRef
namespace Go.Proofs.YtkbmolodljenjaaDoor
open Go.RowKit Go.Lib

def GvA (va : List VA) (k : Nat) : Nat := Gv (va.map v2) k
theorem getD_v2 (va : List VA) (k : Nat) : (va.map v2).getD k (0, []) = v2 (va.getD k (0, [], 0)) := by
  by_cases h : k < va.length
  · simp [List.getD, h]
  · simp [List.getD, List.getElem?_eq_none (Nat.le_of_not_lt h), v2]
def fN (x : Junk) (k : Nat) : Nat := (x.f k).toNat
theorem GF.three {va : List VA} {x : Junk} (h : GF (va.map v2) x) : ∀ k, k < 3 → x.g k = (GvA va k : Int) ∧ x.f k = (fN x k : Int) ∧ BitsL (fN x k) (va.getD k (0, [], 0)).2.1 := by
  intro k hk
  refine ⟨h.g hk, ?_⟩
  by_cases hl : k < va.length
  · obtain ⟨_, f, h2, h4⟩ := h.v k (by simpa using hl)
    rw [getD_v2] at h4
    have e : fN x k = f := by unfold fN; rw [h2]; exact Int.toNat_natCast f
    exact ⟨by rw [e]; exact h2, by rw [e]; exact h4⟩
  · obtain ⟨_, h2⟩ := h.z k (by simpa using hl) hk
    have e : fN x k = 0 := by unfold fN; rw [h2]; rfl
    have e2 : va.getD k (0, [], 0) = (0, [], 0) := by simp [List.getD, List.getElem?_eq_none (Nat.le_of_not_lt hl)]
    exact ⟨by rw [e, h2]; rfl, by rw [e, e2]; exact BitsL.nil⟩
theorem fN_lt {va : List VA} {x : Junk} (h : GF (va.map v2) x) (k : Nat) : fN x k < 16 := by
  by_cases hk : k < 3
  · exact (h.three k hk).2.2.1
  · have : fN x k = fN x 2 := by
      unfold fN Junk.f
      split <;> first | omega | rfl
    rw [this]; exact (h.three 2 (by omega)).2.2.1
theorem Gv_le {va : List VA} {ra : List RA} (h : GoodA va ra) (k : Nat) : GvA va k ≤ 3 := by
  unfold GvA Gv
  rw [getD_v2]
  by_cases hl : k < va.length
  · have e' : va.getD k (0, [], 0) = va[k] := by simp [List.getD, hl]
    rw [e']; exact (h.v _ (List.getElem_mem hl)).1.2
  · have e2 : va.getD k (0, [], 0) = (0, [], 0) := by simp [List.getD, List.getElem?_eq_none (Nat.le_of_not_lt hl)]
    rw [e2]; exact Nat.zero_le _
theorem mc_of {va : List VA} {t : T} {x : Junk} {M : Nat} {W : World} (h : GF (va.map v2) x) (hn : t.n = va.length) (hb : W.heap[M]? = some (.cells (mblk t x) 84 (0, 0))) : MC M (GvA va) (fN x) va.length W := by
  have h3 := h.three
  refine ⟨fun k hk => ?_, by simp [World.cell?, hb, mblk, hn]⟩
  obtain ⟨a, b, _⟩ := h3 k hk
  have hc : k = 0 ∨ k = 1 ∨ k = 2 := by omega
  rw [← a, ← b]
  rcases hc with rfl | rfl | rfl <;> simp [World.cell?, hb, mblk, Junk.g, Junk.f]
theorem rcheck_good {s : ByteArray} (h0 : (rCheck s).1 = 0) : s.size ≤ 120 ∧ (rCheck s).2 = 0 ∧ ∃ va ra q, qRead s = (some (va, ra), q) ∧ (wrongP va ra).1 = 0 := by
  obtain ⟨hle, va, ra, q', hq, hw⟩ := rCheck_ok h0
  refine ⟨hle, ?_, va, ra, q', hq, hw⟩
  unfold rCheck
  rw [if_neg (by omega), hq]
  obtain ⟨e1, e2⟩ := wrong_none hw
  show (wrongP va ra).2 = 0
  unfold wrongP
  rw [e1, e2]; rfl

/-- How readModel ends of a good model: the machine lies in block M, and its rules mean what the document's do. -/
structure GR (s : ByteArray) (va : List VA) (ra : List RA) (w w' : World) (M : Nat) (f : Nat → Nat) (ao : Option Addr) (cap N : Nat) (vals : List Value) : Prop where
  lo : w.heap.size ≤ M
  hi : M < w'.heap.size
  mc : MC M (GvA va) f va.length w'
  f16 : ∀ k, f k < 16
  fb : ∀ k, k < 3 → BitsL (f k) (va.getD k (0, [], 0)).2.1
  c7 : w'.cell? ⟨M, 7, none⟩ = some (.slice ao ra.length cap)
  row : w'.ownsRow w.heap.size 120 1 (.slice ao ra.length cap) ra.length vals
  mean : All2 (fun v r => FnK N w' v (fun y => .int .u64 (ruP s (GvA va) r y : Nat))) vals ra
  l8 : ra.length ≤ 8
  below : Below w.heap.size w w'
def GRPost (s : ByteArray) (va : List VA) (ra : List RA) (w : World) (e : Ending) (w' : World) : Prop :=
  ∃ M f ao cap N vals, e = .returned (.tuple #[.pointer (some ⟨M, 0, none⟩), .int .i64 0, .int .i64 0]) ∧ GR s va ra w w' M f ao cap N vals
theorem gread {s : ByteArray} {va : List VA} {ra : List RA} {q' : Q} (h0 : (rCheck s).1 = 0) (hs : s.size ≤ 120) (hq : qRead s = (some (va, ra), q')) (w : World) :
    Calls Tryd.prog 23 #[.string s] w (GRPost s va ra w) := by
  have hc := check_same s
  have hc1 : (pCheck s).1 = 0 := by rw [← hc] at h0; exact h0
  have hc2 : ((pCheck s).2 : Int) = 0 := by
    have := (rcheck_good h0).2.1
    rw [← hc] at this; exact this
  have hsz : s.size ≤ maxLen := by unfold maxLen; omega
  refine (readModel_any s (fun h => GP.ghost va ra h) (fun _ => .inl ⟨rfl, [], rfl, by decide, rfl, leftV0 hq⟩) w hsz).mono ?_
  rintro e w1 ⟨hb, (⟨h1, _⟩ | ⟨_, B, M, N, t, x, vs, rl, rfl, hS, hP, he, hM⟩)⟩
  · exact absurd hc1 h1
  · obtain ⟨rfl, rfl⟩ := hP.all hs he
    have hn : t.n = va.length := by have := hS.vl; simpa using this.symm
    obtain ⟨vals, hrow, hmean⟩ := hS.rw.r
    obtain ⟨ao, cap, hvr⟩ := owned_slice' hrow
    rw [hvr] at hrow
    refine ⟨M, fN x, ao, cap, N, vals, by rw [hc2], hM, hS.rb.ltM, mc_of hS.gf hn hS.rb.m, fN_lt hS.gf, fun k hk => (hS.gf.three k hk).2.2, by rw [hS.rb.m7, hvr], own_base hrow (by have := hS.rb.lo; omega), hmean, hS.l8, hb⟩
/-- readModel of a bad model. -/
theorem bread (s : ByteArray) (w : World) (hsz : s.size ≤ maxLen) : Calls Tryd.prog 23 #[.string s] w fun e w' => (∃ ao, e = .returned (.tuple #[.pointer ao, .int .i64 ((rCheck s).1 : Nat), .int .i64 (rCheck s).2])) ∧ Below w.heap.size w w' := by
  rw [← check_same s]
  refine (readModel_bad s w hsz).mono ?_
  rintro e w1 ⟨hb, (⟨_, ao, rfl⟩ | ⟨h0, _, M, _, _, _, _, _, rfl, _⟩)⟩
  · exact ⟨⟨ao, rfl⟩, hb⟩
  · exact ⟨⟨_, by show _ = Ending.returned (.tuple #[_, .int .i64 ((pCheck s).1 : Nat), .int .i64 ((pCheck s).2 : Int)]); rw [h0]; rfl⟩, hb⟩

set_option maxRecDepth 100000 in
set_option maxHeartbeats 1600000 in
theorem first9_any (s : ByteArray) (w : World) (hs : s.size ≤ maxLen) (h0w : 0 < w.heap.size) (hT : Tab w) :
    Calls Tryd.prog 11 #[.string s] w fun e w' => (∃ v, e = .returned (.tuple #[v, .int .i64 ((rCheck s).1 : Nat), .int .i64 (rCheck s).2]) ∧ w'.ownsRow w.heap.size 9 1 v (if (rCheck s).1 = 0 then refF s else []).length (strs (if (rCheck s).1 = 0 then refF s else []))) ∧ Below w.heap.size w w' := by
  by_cases h0 : (rCheck s).1 = 0
  · obtain ⟨hle, hp0, va, ra, q', hq, hw⟩ := rcheck_good h0
    have HR : Put (_) := ⟨gread h0 hle hq w⟩
    rw [h0, hp0]
    rw [if_pos rfl]
    have hrf : refF s = (allL (va.map (fun v => v.1))).filter (isFP (va.map (fun v => v.2.1))) := by unfold refF; rw [hq]
    have HRF : Put (_ = _) := ⟨hrf⟩
    have HG : Put (GoodA va ra) := ⟨goodA hq hw⟩
    clear hrf hq hw hp0 h0
    go_enter Tryd.func11, Tryd.ntmps11
    go_wp2_with fail
    refine HR.out.mono ?_
    rintro e w1 ⟨M, f, ao, cap, N, vals, rfl, hR⟩
    have HRR : Put (_) := ⟨hR⟩
    have hlt := hR.hi
    clear hR HR
    go_wp2_with fail
    refine (first_any M va.length (GvA va) f HG.out.l1 HG.out.l3 HRR.out.f16 w1 HRR.out.mc hlt (hT.below HRR.out.below h0w)).mono ?_
    rintro e w3 ⟨rfl, hb3⟩
    have HB3 : Put (Below w.heap.size w w3) := ⟨HRR.out.below.trans (hb3.mono HRR.out.below.size)⟩
    have HM3 : Put (_) := ⟨HRR.out.mc.below hb3 hlt⟩
    have hlt3 : M < w3.heap.size := Nat.lt_of_lt_of_le hlt hb3.size
    have HFL : Put (_) := ⟨frs_lt f va.length HG.out.l3⟩
    clear hb3 hlt
    go_wp2_with fail
    refine (texts_any M (frs f va.length) va.length (GvA va) f HFL.out HG.out.l1 HG.out.l3 w3 HM3.out hlt3 (hT.below HB3.out h0w)).mono ?_
    rintro e w4 ⟨⟨v, rfl, hrow⟩, hb4⟩
    have hfs := firsts_same (va.map (fun v => v.1)) (va.map (fun v => v.2.1)) f (by simpa using HG.out.l1) (by simpa using HG.out.l3)
      (fun t ht => by obtain ⟨v, hv, rfl⟩ := List.mem_map.1 ht; exact (HG.out.v v hv).1) (by simp)
      (fun k hk v hv => by
        have hk' : k < va.length := by simpa using hk
        have := (HRR.out.fb k (by have := HG.out.l3; omega)).2 v hv
        rw [this]
        simp [List.getD, hk'])
      (fun k hk _ v hv => by
        have hk' : k < va.length := by simpa using hk
        simp only [List.getElem_map] at hv ⊢
        exact (HG.out.v _ (List.getElem_mem hk')).2 v hv)
    rw [List.length_map] at hfs
    have hlen : (mem (frs f va.length)).length = ((mem (frs f va.length)).map (fun i => digs va.length i.val)).length := by simp
    rw [hlen, hfs, ← HRF.out] at hrow
    have HROW : Put (w4.ownsRow w.heap.size 9 1 v (refF s).length (strs (refF s))) := ⟨own_base hrow HB3.out.size⟩
    obtain ⟨aol, capl, rfl⟩ := owned_slice' hrow
    have HB4 : Put (Below w.heap.size w w4) := ⟨HB3.out.trans (hb4.mono HB3.out.size)⟩
    clear hrow hb4 hfs hlen
    go_wp2
    refine bodyPost_ret (v := .tuple #[.slice aol _ capl, .int .i64 0, .int .i64 0]) (by simp [results, Tryd.results11, go_sem]; rfl) rfl ?_
    exact ⟨⟨_, rfl, HROW.out⟩, HB4.out⟩
  · rw [if_neg h0]
    have hne : (((rCheck s).1 : Int) == 0) = false := by simp; exact h0
    have hck := bread s w hs
    generalize (rCheck s).1 = a at *
    generalize (rCheck s).2 = b at *
    go_enter Tryd.func11, Tryd.ntmps11
    go_wp2_with fail
    refine hck.mono ?_
    rintro e w1 ⟨⟨ao, rfl⟩, hb1⟩
    clear hck
    go_wp2
    refine bodyPost_ret (v := .tuple #[.slice none 0 0, .int .i64 a, .int .i64 b]) (by simp [results, Tryd.results11, go_sem]) rfl ?_
    exact ⟨⟨_, rfl, World.ownsRow_nil _ _ _ _⟩, hb1⟩

theorem FnK.fn1 {N : Nat} {w : World} {v : Value} {R : Nat → Value} (h : FnK N w v R) (h0 : 0 < w.heap.size) (hT : Tab w) : Fn1 w v R := by
  obtain ⟨fn, caps, h1, h2, h3⟩ := h
  exact ⟨fn, caps, h1, h2, fun W hW x hx => h3 W (Kp.of_below hW) (Nat.lt_of_lt_of_le h0 hW.size) (hT.below hW h0) x hx⟩
theorem All2.mapr {α β γ : Type} {R : α → γ → Prop} {f : β → γ} : ∀ {l : List α} {m : List β}, All2 (fun a b => R a (f b)) l m → All2 R l (m.map f)
  | [], [], _ => All2.nil
  | _ :: _, _ :: _, h => All2.cons h.1 (All2.mapr (R := R) h.2)
  | [], _ :: _, h => h.elim
  | _ :: _, [], h => h.elim
theorem ruP_lt {s : ByteArray} {va : List VA} {ra : List RA} (hg : GoodA va ra) {r : RA} (hr : r ∈ ra) {x : Nat} (hx : x < 64) : ruP s (GvA va) r x < 18446744073709551616 := by
  unfold ruP
  split
  · refine chF_lt _ _ (fun d hd => ?_) (Nat.pow_lt_pow_right (by decide) hx)
    unfold dsP at hd
    obtain ⟨c, hc, rfl⟩ := List.mem_map.1 hd
    have := hg.d r hr c hc
    have := hg.l3
    show c.1.toNat < 3
    omega
  · decide
theorem nxS_lt {ρs : List (Nat → Nat)} {x : Nat} (hx : x < 64) (h : ∀ ρ ∈ ρs, ρ x < 18446744073709551616) : nxS ρs x < 18446744073709551616 := by
  unfold nxS
  split
  · exact Nat.pow_lt_pow_right (by decide) hx
  · exact nxU_lt _ h 0 (by decide)
def nxL (s : ByteArray) (va : List VA) (ra : List RA) (x : Nat) : List (List Nat) := (mem (nxS (ra.map (ruP s (GvA va))) x)).map (fun i => digs va.length i.val)

def NextPost (s st : ByteArray) (w : World) (e : Ending) (w' : World) : Prop :=
  (((rCheck s).1 ≠ 0 ∧ e = .returned (.tuple #[.slice none 0 0, .int .i64 ((rCheck s).1 : Nat), .int .i64 (rCheck s).2]))
    ∨ ((rCheck s).1 = 0 ∧ ∃ (va : List VA) (ra : List RA) (q' : Q), qRead s = (some (va, ra), q') ∧ GoodA va ra ∧
      ((¬ OkS st va.length (GvA va) ∧ e = .returned (.tuple #[.slice none 0 0, .int .i64 8, .int .i64 0]))
        ∨ (∃ (x : Nat) (v : Value), IsS st va.length (GvA va) x ∧ e = .returned (.tuple #[v, .int .i64 0, .int .i64 0]) ∧ w'.ownsRow w.heap.size 9 1 v (nxL s va ra x).length (strs (nxL s va ra x))))))
  ∧ Below w.heap.size w w'


set_option maxRecDepth 100000 in
set_option maxHeartbeats 1600000 in
theorem next14_any (s st : ByteArray) (w : World) (hs : s.size ≤ maxLen) (hst : st.size ≤ maxLen) (h0w : 0 < w.heap.size) (hT : Tab w) :
    Calls Tryd.prog 16 #[.string s, .string st] w (NextPost s st w) := by
  by_cases h0 : (rCheck s).1 = 0
  · obtain ⟨hle, hp0, va, ra, q', hq, hw⟩ := rcheck_good h0
    have H0 : Put (_ ∧ _) := ⟨h0, hq⟩
    have HG : Put (GoodA va ra) := ⟨goodA hq hw⟩
    have HR : Put (_) := ⟨gread h0 hle hq w⟩
    clear hq hw hp0 h0
    go_enter Tryd.func16, Tryd.ntmps16
    go_wp2_with fail
    refine HR.out.mono ?_
    rintro e w1 ⟨M, f, ao, cap, N, vals, rfl, hR⟩
    have HRR : Put (_) := ⟨hR⟩
    have hlt := hR.hi
    have hlen := hR.mean.length
    clear hR HR
    go_wp2_with fail
    refine (state_any M va.length (GvA va) f HG.out.l3 (Gv_le HG.out) st hst w1 HRR.out.mc hlt).mono ?_
    rintro e w3 ⟨hres, hb3⟩
    have HB3 : Put (Below w.heap.size w w3) := ⟨HRR.out.below.trans (hb3.mono HRR.out.below.size)⟩
    have HL3 : Put (Below w1.heap.size w1 w3) := ⟨hb3⟩
    have HM3 : Put (_) := ⟨HRR.out.mc.below hb3 hlt⟩
    have HC3 : Put (_) := ⟨(hb3.cell (p := ⟨M, 7, none⟩) hlt).trans HRR.out.c7⟩
    have hlt3 : M < w3.heap.size := Nat.lt_of_lt_of_le hlt hb3.size
    clear hb3 hlt
    rcases hres with ⟨y, hy, rfl⟩ | ⟨hno, z, rfl⟩
    · have HY : Put (_) := ⟨hy⟩
      have hy64 := hy.1
      clear hy
      have h0w1 : 0 < w1.heap.size := Nat.lt_of_lt_of_le h0w HRR.out.below.size
      have hT1 : Tab w1 := hT.below HRR.out.below h0w
      have hm3 : All2 (fun v ρ => Fn1 w3 v (fun x => .int .u64 (ρ x : Nat))) vals (ra.map (ruP s (GvA va))) :=
        All2.mapr (HRR.out.mean.mono (fun _ _ h => (h.fn1 h0w1 hT1).below HL3.out))
      have hc3 : w3.cell? ⟨M, 7, none⟩ = some (.slice ao vals.length cap) := by rw [hlen]; exact HC3.out
      have hrow3 : w3.ownsRow w.heap.size 120 1 (.slice ao vals.length cap) vals.length vals := by rw [hlen]; exact HL3.out.ownsRow' HRR.out.row
      have hltρ : ∀ ρ ∈ ra.map (ruP s (GvA va)), ρ y < 18446744073709551616 := fun ρ hρ => by obtain ⟨r, hr, rfl⟩ := List.mem_map.1 hρ; exact ruP_lt HG.out hr hy64
      have HN : Put (_) := ⟨next_any M y hy64 w3 ao cap w.heap.size vals (ra.map (ruP s (GvA va))) hlt3 (by have := HRR.out.l8; omega) hc3 hrow3 hm3 hltρ⟩
      have HLT : Put (_) := ⟨nxS_lt hy64 hltρ⟩
      clear hm3 hc3 hrow3 hltρ h0w1 hT1
      go_wp2_with fail
      refine HN.out.mono ?_
      rintro e w4 ⟨rfl, hb4⟩
      have HB4 : Put (Below w.heap.size w w4) := ⟨HB3.out.trans (hb4.mono HB3.out.size)⟩
      have HM4 : Put (_) := ⟨HM3.out.below hb4 hlt3⟩
      have hlt4 : M < w4.heap.size := Nat.lt_of_lt_of_le hlt3 hb4.size
      clear hb4 hlt3 HN
      go_wp2_with fail
      refine (texts_any M (nxS (ra.map (ruP s (GvA va))) y) va.length (GvA va) f HLT.out HG.out.l1 HG.out.l3 w4 HM4.out hlt4 (hT.below HB4.out h0w)).mono ?_
      rintro e w5 ⟨⟨v, rfl, hrow⟩, hb5⟩
      have hlen5 : (mem (nxS (ra.map (ruP s (GvA va))) y)).length = (nxL s va ra y).length := by simp [nxL]
      rw [hlen5] at hrow
      have HROW5 : Put (w5.ownsRow w.heap.size 9 1 v (nxL s va ra y).length (strs (nxL s va ra y))) := ⟨own_base hrow HB4.out.size⟩
      obtain ⟨aol, capl, rfl⟩ := owned_slice' hrow
      have HB5 : Put (Below w.heap.size w w5) := ⟨HB4.out.trans (hb5.mono HB4.out.size)⟩
      clear hrow hb5 hlen5
      go_wp2
      refine bodyPost_ret (v := .tuple #[.slice aol _ capl, .int .i64 0, .int .i64 0]) (by simp [results, Tryd.results16, go_sem]; rfl) rfl ?_
      exact ⟨.inr ⟨H0.out.1, va, ra, q', H0.out.2, HG.out, .inr ⟨y, _, HY.out, rfl, HROW5.out⟩⟩, HB5.out⟩
    · have HNO : Put (_) := ⟨hno⟩
      clear hno
      go_wp2
      refine bodyPost_ret (v := .tuple #[.slice none 0 0, .int .i64 8, .int .i64 0]) (by simp [results, Tryd.results16, go_sem]) rfl ?_
      exact ⟨.inr ⟨H0.out.1, va, ra, q', H0.out.2, HG.out, .inl ⟨HNO.out, rfl⟩⟩, HB3.out⟩
  · have H0 : Put (_) := ⟨h0⟩
    unfold NextPost
    have hne : (((rCheck s).1 : Int) == 0) = false := by simp; exact h0
    have hck := bread s w hs
    clear h0
    generalize (rCheck s).1 = a at *
    generalize (rCheck s).2 = b at *
    go_enter Tryd.func16, Tryd.ntmps16
    go_wp2_with fail
    refine hck.mono ?_
    rintro e w1 ⟨⟨ao, rfl⟩, hb1⟩
    clear hck
    go_wp2
    refine bodyPost_ret (v := .tuple #[.slice none 0 0, .int .i64 a, .int .i64 b]) (by simp [results, Tryd.results16, go_sem]) rfl ?_
    exact ⟨.inl ⟨H0.out, rfl⟩, hb1⟩
end Go.Proofs.YtkbmolodljenjaaDoor

namespace Go.Proofs.YtkbmolodljenjaaDoor
open Go.RowKit Go.Lib

set_option maxRecDepth 100000 in
set_option maxHeartbeats 1600000 in
theorem decide_any (s f : ByteArray) (w : World) : Calls Tryd.prog 28 #[.string s, .string f] w fun e w' => (∃ v, e = .returned v) ∧ Below w.heap.size w w' := by
  go_enter Tryd.func28, Tryd.ntmps28
  go_wp2
  refine bodyPost_ret (v := .tuple #[.bool false, .agg #[.slice none 0 0, .int .i64 0], .int .i64 0, .int .i64 0]) (by simp [results, Tryd.results28, go_sem]) rfl ?_
  exact ⟨⟨_, rfl⟩, (Below.refl _ _).alloc (Nat.le_refl _) _⟩

theorem first_ret (s : ByteArray) (w : World) (hs : s.size ≤ maxLen) (h0w : 0 < w.heap.size) (hT : Tab w) : Calls Tryd.prog 11 #[.string s] w fun e w' => (∃ v, e = .returned v) ∧ Below w.heap.size w w' := by
  refine (first9_any s w hs h0w hT).mono ?_
  rintro e w' ⟨⟨v, rfl, _⟩, hb⟩
  exact ⟨⟨_, rfl⟩, hb⟩
theorem next_ret (s st : ByteArray) (w : World) (hs : s.size ≤ maxLen) (hst : st.size ≤ maxLen) (h0w : 0 < w.heap.size) (hT : Tab w) : Calls Tryd.prog 16 #[.string s, .string st] w fun e w' => (∃ v, e = .returned v) ∧ Below w.heap.size w w' := by
  refine (next14_any s st w hs hst h0w hT).mono ?_
  rintro e w' ⟨h, hb⟩
  refine ⟨?_, hb⟩
  rcases h with ⟨_, rfl⟩ | ⟨_, _, _, _, _, _, (⟨_, rfl⟩ | ⟨_, _, _, rfl, _⟩)⟩
  · exact ⟨_, rfl⟩
  · exact ⟨_, rfl⟩
  · exact ⟨_, rfl⟩

set_option maxRecDepth 100000 in
set_option maxHeartbeats 1600000 in
theorem others_any (w : World) (h0w : 0 < w.heap.size) (hT : Tab w) : Calls Tryd.prog 12 #[] w fun e w' => e = .returned (.tuple #[]) ∧ Below w.heap.size w w' := by
  go_enter Tryd.func12, Tryd.ntmps12
  go_wp2_with fail
  refine (first_ret _ w (by decide) h0w hT).mono ?_
  rintro e w1 ⟨⟨v1, rfl⟩, hb1⟩
  have hs1 := Nat.lt_of_lt_of_le h0w hb1.size
  have hT1 := hT.below hb1 h0w
  go_wp2_with fail
  refine (first_ret _ w1 (by decide) hs1 hT1).mono ?_
  rintro e w2 ⟨⟨v2, rfl⟩, hb2⟩
  have hs2 := Nat.lt_of_lt_of_le hs1 hb2.size
  have hT2 := hT1.below hb2 hs1
  go_wp2_with fail
  refine (next_ret _ _ w2 (by decide) (by decide) hs2 hT2).mono ?_
  rintro e w3 ⟨⟨v3, rfl⟩, hb3⟩
  have hs3 := Nat.lt_of_lt_of_le hs2 hb3.size
  have hT3 := hT2.below hb3 hs2
  go_wp2_with fail
  refine (next_ret _ _ w3 (by decide) (by decide) hs3 hT3).mono ?_
  rintro e w4 ⟨⟨v4, rfl⟩, hb4⟩
  go_wp2_with fail
  refine (decide_any _ _ w4).mono ?_
  rintro e w5 ⟨⟨v5, rfl⟩, hb5⟩
  go_wp2_with fail
  refine (decide_any _ _ w5).mono ?_
  rintro e w6 ⟨⟨v6, rfl⟩, hb6⟩
  have B2 := hb1.trans (hb2.mono hb1.size)
  have B3 := B2.trans (hb3.mono B2.size)
  have B4 := B3.trans (hb4.mono B3.size)
  have B5 := B4.trans (hb5.mono B4.size)
  have B6 := B5.trans (hb6.mono B5.size)
  clear hb1 hb2 hb3 hb4 hb5 hb6 B2 B3 B4 B5 hT hT1 hT2 hT3
  go_wp2
  go_end0
  exact ⟨rfl, B6⟩
end Go.Proofs.YtkbmolodljenjaaDoor
