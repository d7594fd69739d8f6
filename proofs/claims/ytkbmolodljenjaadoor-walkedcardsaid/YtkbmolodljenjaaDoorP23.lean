import Derived.Test.YtkbmolodljenjaaDoorP22
import Derived.Test.YtkbmolodljenjaaDoorP12
import Derived.Test.YtkbmolodljenjaaDoorP11
import Derived.Test.YtkbmolodljenjaaDoorP13
/- The code's First and Next. Our own text. -/
namespace Go.Proofs.YtkbmolodljenjaaDoor
open Go.RowKit Go.Lib

def GvA (va : List VA) (k : Nat) : Nat := Gv (va.map v2) k
theorem getD_v2 (va : List VA) (k : Nat) : (va.map v2).getD k (0, []) = v2 (va.getD k (0, [], 0)) := by
  by_cases h : k < va.length
  · simp [List.getD, h]
  · simp [List.getD, List.getElem?_eq_none (Nat.le_of_not_lt h), v2]
def fN (x : Junk) (k : Nat) : Nat := (x.f k).toNat
theorem GF.three {va : List VA} {x : Junk} (h : GF (va.map v2) x) : ∀ k, k < 3 → x.g k = (GvA va k : Int) ∧ x.f k = (fN x k : Int) ∧ BitsL (fN x k) (va.getD k (0, [], 0)).2.1 := by
  intro k hk
  refine ⟨h.g hk, ?_⟩
  by_cases hl : k < va.length
  · obtain ⟨_, f, h2, h4⟩ := h.v k (by simpa using hl)
    rw [getD_v2] at h4
    have e : fN x k = f := by unfold fN; rw [h2]; exact Int.toNat_natCast f
    exact ⟨by rw [e]; exact h2, by rw [e]; exact h4⟩
  · obtain ⟨_, h2⟩ := h.z k (by simpa using hl) hk
    have e : fN x k = 0 := by unfold fN; rw [h2]; rfl
    have e2 : va.getD k (0, [], 0) = (0, [], 0) := by simp [List.getD, List.getElem?_eq_none (Nat.le_of_not_lt hl)]
    exact ⟨by rw [e, h2]; rfl, by rw [e, e2]; exact BitsL.nil⟩
theorem fN_lt {va : List VA} {x : Junk} (h : GF (va.map v2) x) (k : Nat) : fN x k < 16 := by
  by_cases hk : k < 3
  · exact (h.three k hk).2.2.1
  · have : fN x k = fN x 2 := by
      unfold fN Junk.f
      split <;> first | omega | rfl
    rw [this]; exact (h.three 2 (by omega)).2.2.1
theorem Gv_le {va : List VA} {ra : List RA} (h : GoodA va ra) (k : Nat) : GvA va k ≤ 3 := by
  unfold GvA Gv
  rw [getD_v2]
  by_cases hl : k < va.length
  · have e' : va.getD k (0, [], 0) = va[k] := by simp [List.getD, hl]
    rw [e']; exact (h.v _ (List.getElem_mem hl)).1.2
  · have e2 : va.getD k (0, [], 0) = (0, [], 0) := by simp [List.getD, List.getElem?_eq_none (Nat.le_of_not_lt hl)]
    rw [e2]; exact Nat.zero_le _
theorem mc_of {va : List VA} {t : T} {x : Junk} {M : Nat} {W : World} (h : GF (va.map v2) x) (hn : t.n = va.length) (hb : W.heap[M]? = some (.cells (mblk t x) 84 (0, 0))) : MC M (GvA va) (fN x) va.length W := by
  have h3 := h.three
  refine ⟨fun k hk => ?_, by simp [World.cell?, hb, mblk, hn]⟩
  obtain ⟨a, b, _⟩ := h3 k hk
  have hc : k = 0 ∨ k = 1 ∨ k = 2 := by omega
  rw [← a, ← b]
  rcases hc with rfl | rfl | rfl <;> simp [World.cell?, hb, mblk, Junk.g, Junk.f]
theorem rcheck_good {s : ByteArray} (h0 : (rCheck s).1 = 0) : s.size ≤ 120 ∧ (rCheck s).2 = 0 ∧ ∃ va ra q, qRead s = (some (va, ra), q) ∧ (wrongP va ra).1 = 0 := by
  obtain ⟨hle, va, ra, q', hq, hw⟩ := rCheck_ok h0
  refine ⟨hle, ?_, va, ra, q', hq, hw⟩
  unfold rCheck
  rw [if_neg (by omega), hq]
  obtain ⟨e1, e2⟩ := wrong_none hw
  show (wrongP va ra).2 = 0
  unfold wrongP
  rw [e1, e2]; rfl

/-- How readModel ends of a good model: the machine lies in block M, and its rules mean what the document's do. -/
structure GR (s : ByteArray) (va : List VA) (ra : List RA) (w w' : World) (M : Nat) (f : Nat → Nat) (ao : Option Addr) (cap N : Nat) (vals : List Value) : Prop where
  lo : w.heap.size ≤ M
  hi : M < w'.heap.size
  mc : MC M (GvA va) f va.length w'
  f16 : ∀ k, f k < 16
  fb : ∀ k, k < 3 → BitsL (f k) (va.getD k (0, [], 0)).2.1
  c7 : w'.cell? ⟨M, 7, none⟩ = some (.slice ao ra.length cap)
  row : w'.ownsRow w.heap.size 120 1 (.slice ao ra.length cap) ra.length vals
  mean : All2 (fun v r => FnK N w' v (fun y => .int .u64 (ruP s (GvA va) r y : Nat))) vals ra
  l8 : ra.length ≤ 8
  below : Below w.heap.size w w'
def GRPost (s : ByteArray) (va : List VA) (ra : List RA) (w : World) (e : Ending) (w' : World) : Prop :=
  ∃ M f ao cap N vals, e = .returned (.tuple #[.pointer (some ⟨M, 0, none⟩), .int .i64 0, .int .i64 0]) ∧ GR s va ra w w' M f ao cap N vals
theorem gread {s : ByteArray} {va : List VA} {ra : List RA} {q' : Q} (h0 : (rCheck s).1 = 0) (hs : s.size ≤ 120) (hq : qRead s = (some (va, ra), q')) (w : World) :
    Calls Tryd.prog 23 #[.string s] w (GRPost s va ra w) := by
  have hc := check_same s
  have hc1 : (pCheck s).1 = 0 := by rw [← hc] at h0; exact h0
  have hc2 : ((pCheck s).2 : Int) = 0 := by
    have := (rcheck_good h0).2.1
    rw [← hc] at this; exact this
  have hsz : s.size ≤ maxLen := by unfold maxLen; omega
  refine (readModel_any s (fun h => GP.ghost va ra h) (fun _ => .inl ⟨rfl, [], rfl, by decide, rfl, leftV0 hq⟩) w hsz).mono ?_
  rintro e w1 ⟨hb, (⟨h1, _⟩ | ⟨_, B, M, N, t, x, vs, rl, rfl, hS, hP, he, hM⟩)⟩
  · exact absurd hc1 h1
  · obtain ⟨rfl, rfl⟩ := hP.all hs he
    have hn : t.n = va.length := by have := hS.vl; simpa using this.symm
    obtain ⟨vals, hrow, hmean⟩ := hS.rw.r
    obtain ⟨ao, cap, hvr⟩ := owned_slice' hrow
    rw [hvr] at hrow
    refine ⟨M, fN x, ao, cap, N, vals, by rw [hc2], hM, hS.rb.ltM, mc_of hS.gf hn hS.rb.m, fN_lt hS.gf, fun k hk => (hS.gf.three k hk).2.2, by rw [hS.rb.m7, hvr], own_base hrow (by have := hS.rb.lo; omega), hmean, hS.l8, hb⟩
/-- readModel of a bad model. -/
theorem bread (s : ByteArray) (w : World) (hsz : s.size ≤ maxLen) : Calls Tryd.prog 23 #[.string s] w fun e w' => (∃ ao, e = .returned (.tuple #[.pointer ao, .int .i64 ((rCheck s).1 : Nat), .int .i64 (rCheck s).2])) ∧ Below w.heap.size w w' := by
  rw [← check_same s]
  refine (readModel_bad s w hsz).mono ?_
  rintro e w1 ⟨hb, (⟨_, ao, rfl⟩ | ⟨h0, _, M, _, _, _, _, _, rfl, _⟩)⟩
  · exact ⟨⟨ao, rfl⟩, hb⟩
  · exact ⟨⟨_, by show _ = Ending.returned (.tuple #[_, .int .i64 ((pCheck s).1 : Nat), .int .i64 ((pCheck s).2 : Int)]); rw [h0]; rfl⟩, hb⟩

set_option maxRecDepth 100000 in
set_option maxHeartbeats 1600000 in
theorem first9_any (s : ByteArray) (w : World) (hs : s.size ≤ maxLen) (h0w : 0 < w.heap.size) (hT : Tab w) :
    Calls Tryd.prog 11 #[.string s] w fun e w' => (∃ v, e = .returned (.tuple #[v, .int .i64 ((rCheck s).1 : Nat), .int .i64 (rCheck s).2]) ∧ w'.ownsRow w.heap.size 9 1 v (if (rCheck s).1 = 0 then refF s else []).length (strs (if (rCheck s).1 = 0 then refF s else []))) ∧ Below w.heap.size w w' := by
  by_cases h0 : (rCheck s).1 = 0
  · obtain ⟨hle, hp0, va, ra, q', hq, hw⟩ := rcheck_good h0
    have HR : Put (_) := ⟨gread h0 hle hq w⟩
    rw [h0, hp0]
    rw [if_pos rfl]
    have hrf : refF s = (allL (va.map (fun v => v.1))).filter (isFP (va.map (fun v => v.2.1))) := by unfold refF; rw [hq]
    have HRF : Put (_ = _) := ⟨hrf⟩
    have HG : Put (GoodA va ra) := ⟨goodA hq hw⟩
    clear hrf hq hw hp0 h0
    go_enter Tryd.func11, Tryd.ntmps11
    go_wp2_with fail
    refine HR.out.mono ?_
    rintro e w1 ⟨M, f, ao, cap, N, vals, rfl, hR⟩
    have HRR : Put (_) := ⟨hR⟩
    have hlt := hR.hi
    clear hR HR
    go_wp2_with fail
    refine (first_any M va.length (GvA va) f HG.out.l1 HG.out.l3 HRR.out.f16 w1 HRR.out.mc hlt (hT.below HRR.out.below h0w)).mono ?_
    rintro e w3 ⟨rfl, hb3⟩
    have HB3 : Put (Below w.heap.size w w3) := ⟨HRR.out.below.trans (hb3.mono HRR.out.below.size)⟩
    have HM3 : Put (_) := ⟨HRR.out.mc.below hb3 hlt⟩
    have hlt3 : M < w3.heap.size := Nat.lt_of_lt_of_le hlt hb3.size
    have HFL : Put (_) := ⟨frs_lt f va.length HG.out.l3⟩
    clear hb3 hlt
    go_wp2_with fail
    refine (texts_any M (frs f va.length) va.length (GvA va) f HFL.out HG.out.l1 HG.out.l3 w3 HM3.out hlt3 (hT.below HB3.out h0w)).mono ?_
    rintro e w4 ⟨⟨v, rfl, hrow⟩, hb4⟩
    have hfs := firsts_same (va.map (fun v => v.1)) (va.map (fun v => v.2.1)) f (by simpa using HG.out.l1) (by simpa using HG.out.l3)
      (fun t ht => by obtain ⟨v, hv, rfl⟩ := List.mem_map.1 ht; exact (HG.out.v v hv).1) (by simp)
      (fun k hk v hv => by
        have hk' : k < va.length := by simpa using hk
        have := (HRR.out.fb k (by have := HG.out.l3; omega)).2 v hv
        rw [this]
        simp [List.getD, hk'])
      (fun k hk _ v hv => by
        have hk' : k < va.length := by simpa using hk
        simp only [List.getElem_map] at hv ⊢
        exact (HG.out.v _ (List.getElem_mem hk')).2 v hv)
    rw [List.length_map] at hfs
    have hlen : (mem (frs f va.length)).length = ((mem (frs f va.length)).map (fun i => digs va.length i.val)).length := by simp
    rw [hlen, hfs, ← HRF.out] at hrow
    have HROW : Put (w4.ownsRow w.heap.size 9 1 v (refF s).length (strs (refF s))) := ⟨own_base hrow HB3.out.size⟩
    obtain ⟨aol, capl, rfl⟩ := owned_slice' hrow
    have HB4 : Put (Below w.heap.size w w4) := ⟨HB3.out.trans (hb4.mono HB3.out.size)⟩
    clear hrow hb4 hfs hlen
    go_wp2
    refine bodyPost_ret (v := .tuple #[.slice aol _ capl, .int .i64 0, .int .i64 0]) (by simp [results, Tryd.results11, go_sem]; rfl) rfl ?_
    exact ⟨⟨_, rfl, HROW.out⟩, HB4.out⟩
  · rw [if_neg h0]
    have hne : (((rCheck s).1 : Int) == 0) = false := by simp; exact h0
    have hck := bread s w hs
    generalize (rCheck s).1 = a at *
    generalize (rCheck s).2 = b at *
    go_enter Tryd.func11, Tryd.ntmps11
    go_wp2_with fail
    refine hck.mono ?_
    rintro e w1 ⟨⟨ao, rfl⟩, hb1⟩
    clear hck
    go_wp2
    refine bodyPost_ret (v := .tuple #[.slice none 0 0, .int .i64 a, .int .i64 b]) (by simp [results, Tryd.results11, go_sem]) rfl ?_
    exact ⟨⟨_, rfl, World.ownsRow_nil _ _ _ _⟩, hb1⟩

theorem FnK.fn1 {N : Nat} {w : World} {v : Value} {R : Nat → Value} (h : FnK N w v R) (h0 : 0 < w.heap.size) (hT : Tab w) : Fn1 w v R := by
  obtain ⟨fn, caps, h1, h2, h3⟩ := h
  exact ⟨fn, caps, h1, h2, fun W hW x hx => h3 W (Kp.of_below hW) (Nat.lt_of_lt_of_le h0 hW.size) (hT.below hW h0) x hx⟩
theorem All2.mapr {α β γ : Type} {R : α → γ → Prop} {f : β → γ} : ∀ {l : List α} {m : List β}, All2 (fun a b => R a (f b)) l m → All2 R l (m.map f)
  | [], [], _ => All2.nil
  | _ :: _, _ :: _, h => All2.cons h.1 (All2.mapr (R := R) h.2)
  | [], _ :: _, h => h.elim
  | _ :: _, [], h => h.elim
theorem ruP_lt {s : ByteArray} {va : List VA} {ra : List RA} (hg : GoodA va ra) {r : RA} (hr : r ∈ ra) {x : Nat} (hx : x < 64) : ruP s (GvA va) r x < 18446744073709551616 := by
  unfold ruP
  split
  · refine chF_lt _ _ (fun d hd => ?_) (Nat.pow_lt_pow_right (by decide) hx)
    unfold dsP at hd
    obtain ⟨c, hc, rfl⟩ := List.mem_map.1 hd
    have := hg.d r hr c hc
    have := hg.l3
    show c.1.toNat < 3
    omega
  · decide
theorem nxS_lt {ρs : List (Nat → Nat)} {x : Nat} (hx : x < 64) (h : ∀ ρ ∈ ρs, ρ x < 18446744073709551616) : nxS ρs x < 18446744073709551616 := by
  unfold nxS
  split
  · exact Nat.pow_lt_pow_right (by decide) hx
  · exact nxU_lt _ h 0 (by decide)
def nxL (s : ByteArray) (va : List VA) (ra : List RA) (x : Nat) : List (List Nat) := (mem (nxS (ra.map (ruP s (GvA va))) x)).map (fun i => digs va.length i.val)

def NextPost (s st : ByteArray) (w : World) (e : Ending) (w' : World) : Prop :=
  (((rCheck s).1 ≠ 0 ∧ e = .returned (.tuple #[.slice none 0 0, .int .i64 ((rCheck s).1 : Nat), .int .i64 (rCheck s).2]))
    ∨ ((rCheck s).1 = 0 ∧ ∃ (va : List VA) (ra : List RA) (q' : Q), qRead s = (some (va, ra), q') ∧ GoodA va ra ∧
      ((¬ OkS st va.length (GvA va) ∧ e = .returned (.tuple #[.slice none 0 0, .int .i64 8, .int .i64 0]))
        ∨ (∃ (x : Nat) (v : Value), IsS st va.length (GvA va) x ∧ e = .returned (.tuple #[v, .int .i64 0, .int .i64 0]) ∧ w'.ownsRow w.heap.size 9 1 v (nxL s va ra x).length (strs (nxL s va ra x))))))
  ∧ Below w.heap.size w w'


set_option maxRecDepth 100000 in
set_option maxHeartbeats 1600000 in
theorem next14_any (s st : ByteArray) (w : World) (hs : s.size ≤ maxLen) (hst : st.size ≤ maxLen) (h0w : 0 < w.heap.size) (hT : Tab w) :
    Calls Tryd.prog 16 #[.string s, .string st] w (NextPost s st w) := by
  by_cases h0 : (rCheck s).1 = 0
  · obtain ⟨hle, hp0, va, ra, q', hq, hw⟩ := rcheck_good h0
    have H0 : Put (_ ∧ _) := ⟨h0, hq⟩
    have HG : Put (GoodA va ra) := ⟨goodA hq hw⟩
    have HR : Put (_) := ⟨gread h0 hle hq w⟩
    clear hq hw hp0 h0
    go_enter Tryd.func16, Tryd.ntmps16
    go_wp2_with fail
    refine HR.out.mono ?_
    rintro e w1 ⟨M, f, ao, cap, N, vals, rfl, hR⟩
    have HRR : Put (_) := ⟨hR⟩
    have hlt := hR.hi
    have hlen := hR.mean.length
    clear hR HR
    go_wp2_with fail
    refine (state_any M va.length (GvA va) f HG.out.l3 (Gv_le HG.out) st hst w1 HRR.out.mc hlt).mono ?_
    rintro e w3 ⟨hres, hb3⟩
    have HB3 : Put (Below w.heap.size w w3) := ⟨HRR.out.below.trans (hb3.mono HRR.out.below.size)⟩
    have HL3 : Put (Below w1.heap.size w1 w3) := ⟨hb3⟩
    have HM3 : Put (_) := ⟨HRR.out.mc.below hb3 hlt⟩
    have HC3 : Put (_) := ⟨(hb3.cell (p := ⟨M, 7, none⟩) hlt).trans HRR.out.c7⟩
    have hlt3 : M < w3.heap.size := Nat.lt_of_lt_of_le hlt hb3.size
    clear hb3 hlt
    rcases hres with ⟨y, hy, rfl⟩ | ⟨hno, z, rfl⟩
    · have HY : Put (_) := ⟨hy⟩
      have hy64 := hy.1
      clear hy
      have h0w1 : 0 < w1.heap.size := Nat.lt_of_lt_of_le h0w HRR.out.below.size
      have hT1 : Tab w1 := hT.below HRR.out.below h0w
      have hm3 : All2 (fun v ρ => Fn1 w3 v (fun x => .int .u64 (ρ x : Nat))) vals (ra.map (ruP s (GvA va))) :=
        All2.mapr (HRR.out.mean.mono (fun _ _ h => (h.fn1 h0w1 hT1).below HL3.out))
      have hc3 : w3.cell? ⟨M, 7, none⟩ = some (.slice ao vals.length cap) := by rw [hlen]; exact HC3.out
      have hrow3 : w3.ownsRow w.heap.size 120 1 (.slice ao vals.length cap) vals.length vals := by rw [hlen]; exact HL3.out.ownsRow' HRR.out.row
      have hltρ : ∀ ρ ∈ ra.map (ruP s (GvA va)), ρ y < 18446744073709551616 := fun ρ hρ => by obtain ⟨r, hr, rfl⟩ := List.mem_map.1 hρ; exact ruP_lt HG.out hr hy64
      have HN : Put (_) := ⟨next_any M y hy64 w3 ao cap w.heap.size vals (ra.map (ruP s (GvA va))) hlt3 (by have := HRR.out.l8; omega) hc3 hrow3 hm3 hltρ⟩
      have HLT : Put (_) := ⟨nxS_lt hy64 hltρ⟩
      clear hm3 hc3 hrow3 hltρ h0w1 hT1
      go_wp2_with fail
      refine HN.out.mono ?_
      rintro e w4 ⟨rfl, hb4⟩
      have HB4 : Put (Below w.heap.size w w4) := ⟨HB3.out.trans (hb4.mono HB3.out.size)⟩
      have HM4 : Put (_) := ⟨HM3.out.below hb4 hlt3⟩
      have hlt4 : M < w4.heap.size := Nat.lt_of_lt_of_le hlt3 hb4.size
      clear hb4 hlt3 HN
      go_wp2_with fail
      refine (texts_any M (nxS (ra.map (ruP s (GvA va))) y) va.length (GvA va) f HLT.out HG.out.l1 HG.out.l3 w4 HM4.out hlt4 (hT.below HB4.out h0w)).mono ?_
      rintro e w5 ⟨⟨v, rfl, hrow⟩, hb5⟩
      have hlen5 : (mem (nxS (ra.map (ruP s (GvA va))) y)).length = (nxL s va ra y).length := by simp [nxL]
      rw [hlen5] at hrow
      have HROW5 : Put (w5.ownsRow w.heap.size 9 1 v (nxL s va ra y).length (strs (nxL s va ra y))) := ⟨own_base hrow HB4.out.size⟩
      obtain ⟨aol, capl, rfl⟩ := owned_slice' hrow
      have HB5 : Put (Below w.heap.size w w5) := ⟨HB4.out.trans (hb5.mono HB4.out.size)⟩
      clear hrow hb5 hlen5
      go_wp2
      refine bodyPost_ret (v := .tuple #[.slice aol _ capl, .int .i64 0, .int .i64 0]) (by simp [results, Tryd.results16, go_sem]; rfl) rfl ?_
      exact ⟨.inr ⟨H0.out.1, va, ra, q', H0.out.2, HG.out, .inr ⟨y, _, HY.out, rfl, HROW5.out⟩⟩, HB5.out⟩
    · have HNO : Put (_) := ⟨hno⟩
      clear hno
      go_wp2
      refine bodyPost_ret (v := .tuple #[.slice none 0 0, .int .i64 8, .int .i64 0]) (by simp [results, Tryd.results16, go_sem]) rfl ?_
      exact ⟨.inr ⟨H0.out.1, va, ra, q', H0.out.2, HG.out, .inl ⟨HNO.out, rfl⟩⟩, HB3.out⟩
  · have H0 : Put (_) := ⟨h0⟩
    unfold NextPost
    have hne : (((rCheck s).1 : Int) == 0) = false := by simp; exact h0
    have hck := bread s w hs
    clear h0
    generalize (rCheck s).1 = a at *
    generalize (rCheck s).2 = b at *
    go_enter Tryd.func16, Tryd.ntmps16
    go_wp2_with fail
    refine hck.mono ?_
    rintro e w1 ⟨⟨ao, rfl⟩, hb1⟩
    clear hck
    go_wp2
    refine bodyPost_ret (v := .tuple #[.slice none 0 0, .int .i64 a, .int .i64 b]) (by simp [results, Tryd.results16, go_sem]) rfl ?_
    exact ⟨.inl ⟨H0.out, rfl⟩, hb1⟩
end Go.Proofs.YtkbmolodljenjaaDoor

namespace Go.Proofs.YtkbmolodljenjaaDoor
open Go.RowKit Go.Lib

set_option maxRecDepth 100000 in
set_option maxHeartbeats 1600000 in
theorem decide_any (s f : ByteArray) (w : World) : Calls Tryd.prog 28 #[.string s, .string f] w fun e w' => (∃ v, e = .returned v) ∧ Below w.heap.size w w' := by
  go_enter Tryd.func28, Tryd.ntmps28
  go_wp2
  refine bodyPost_ret (v := .tuple #[.bool false, .agg #[.slice none 0 0, .int .i64 0], .int .i64 0, .int .i64 0]) (by simp [results, Tryd.results28, go_sem]) rfl ?_
  exact ⟨⟨_, rfl⟩, (Below.refl _ _).alloc (Nat.le_refl _) _⟩

theorem first_ret (s : ByteArray) (w : World) (hs : s.size ≤ maxLen) (h0w : 0 < w.heap.size) (hT : Tab w) : Calls Tryd.prog 11 #[.string s] w fun e w' => (∃ v, e = .returned v) ∧ Below w.heap.size w w' := by
  refine (first9_any s w hs h0w hT).mono ?_
  rintro e w' ⟨⟨v, rfl, _⟩, hb⟩
  exact ⟨⟨_, rfl⟩, hb⟩
theorem next_ret (s st : ByteArray) (w : World) (hs : s.size ≤ maxLen) (hst : st.size ≤ maxLen) (h0w : 0 < w.heap.size) (hT : Tab w) : Calls Tryd.prog 16 #[.string s, .string st] w fun e w' => (∃ v, e = .returned v) ∧ Below w.heap.size w w' := by
  refine (next14_any s st w hs hst h0w hT).mono ?_
  rintro e w' ⟨h, hb⟩
  refine ⟨?_, hb⟩
  rcases h with ⟨_, rfl⟩ | ⟨_, _, _, _, _, _, (⟨_, rfl⟩ | ⟨_, _, _, rfl, _⟩)⟩
  · exact ⟨_, rfl⟩
  · exact ⟨_, rfl⟩
  · exact ⟨_, rfl⟩

set_option maxRecDepth 100000 in
set_option maxHeartbeats 1600000 in
theorem others_any (w : World) (h0w : 0 < w.heap.size) (hT : Tab w) : Calls Tryd.prog 12 #[] w fun e w' => e = .returned (.tuple #[]) ∧ Below w.heap.size w w' := by
  go_enter Tryd.func12, Tryd.ntmps12
  go_wp2_with fail
  refine (first_ret _ w (by decide) h0w hT).mono ?_
  rintro e w1 ⟨⟨v1, rfl⟩, hb1⟩
  have hs1 := Nat.lt_of_lt_of_le h0w hb1.size
  have hT1 := hT.below hb1 h0w
  go_wp2_with fail
  refine (first_ret _ w1 (by decide) hs1 hT1).mono ?_
  rintro e w2 ⟨⟨v2, rfl⟩, hb2⟩
  have hs2 := Nat.lt_of_lt_of_le hs1 hb2.size
  have hT2 := hT1.below hb2 hs1
  go_wp2_with fail
  refine (next_ret _ _ w2 (by decide) (by decide) hs2 hT2).mono ?_
  rintro e w3 ⟨⟨v3, rfl⟩, hb3⟩
  have hs3 := Nat.lt_of_lt_of_le hs2 hb3.size
  have hT3 := hT2.below hb3 hs2
  go_wp2_with fail
  refine (next_ret _ _ w3 (by decide) (by decide) hs3 hT3).mono ?_
  rintro e w4 ⟨⟨v4, rfl⟩, hb4⟩
  go_wp2_with fail
  refine (decide_any _ _ w4).mono ?_
  rintro e w5 ⟨⟨v5, rfl⟩, hb5⟩
  go_wp2_with fail
  refine (decide_any _ _ w5).mono ?_
  rintro e w6 ⟨⟨v6, rfl⟩, hb6⟩
  have B2 := hb1.trans (hb2.mono hb1.size)
  have B3 := B2.trans (hb3.mono B2.size)
  have B4 := B3.trans (hb4.mono B3.size)
  have B5 := B4.trans (hb5.mono B4.size)
  have B6 := B5.trans (hb6.mono B5.size)
  clear hb1 hb2 hb3 hb4 hb5 hb6 B2 B3 B4 B5 hT hT1 hT2 hT3
  go_wp2
  go_end0
  exact ⟨rfl, B6⟩
end Go.Proofs.YtkbmolodljenjaaDoor

/- The code: which state of a lasso may not stand where it does. Our own text. -/
namespace Go.Proofs.YtkbmolodljenjaaDoor
open Go.RowKit Go.Lib

theorem has64_any (m n : Nat) (hm : m < 18446744073709551616) (hn : n < 64) (w : World) :
    Calls Tryd.prog 54 #[.int .u64 m, .int .i64 n] w fun e w' => e = .returned (.bool (m.testBit n)) ∧ w' = w := by
  have hb := bits_and_u64_nat m (2 ^ n) hm (pow_lt64 hn)
  have ht : ((((m &&& 2 ^ n : Nat) : Int)) != 0) = m.testBit n := by
    cases h : m.testBit n with
    | true =>
      have h1 : (m &&& 2 ^ n).testBit n = true := by rw [Nat.testBit_and, h, Nat.testBit_two_pow_self]; rfl
      have : m &&& 2 ^ n ≠ 0 := fun e => by rw [e] at h1; simp at h1
      simp; omega
    | false =>
      have : m &&& 2 ^ n = 0 := by
        apply Nat.eq_of_testBit_eq
        intro i
        rw [Nat.testBit_and, Nat.testBit_two_pow, Nat.zero_testBit]
        by_cases e : n = i
        · subst e; rw [h]; rfl
        · simp [e]
      rw [this]; rfl
  have HT : Put (_ = _) := ⟨ht⟩
  clear ht
  go_enter Tryd.func54, Tryd.ntmps54
  go_wp2_with fail
  refine (one64_any n hn w).mono ?_
  rintro e w' ⟨rfl, rfl⟩
  go_wp2
  go_ret
  refine ⟨?_, rfl⟩
  show Ending.returned (Value.bool (bits .and .u64 (m : Int) ((2 ^ n : Nat) : Int) != 0)) = _
  rw [hb, HT.out]

theorem GR.up {s : ByteArray} {va : List VA} {ra : List RA} {w w1 W : World} {M : Nat} {f : Nat → Nat} {ao : Option Addr} {cap N : Nat} {vals : List Value} (h : GR s va ra w w1 M f ao cap N vals) (hb : Below w1.heap.size w1 W) : GR s va ra w W M f ao cap N vals :=
  ⟨h.lo, Nat.lt_of_lt_of_le h.hi hb.size, h.mc.below hb h.hi, h.f16, h.fb, (hb.cell (p := ⟨M, 7, none⟩) h.hi).trans h.c7, hb.ownsRow' h.row, h.mean.mono (fun _ _ g => g.kp (Kp.of_below hb)), h.l8, h.below.trans (hb.mono h.below.size)⟩

theorem GR.upK {s : ByteArray} {va : List VA} {ra : List RA} {w w1 W : World} {M b : Nat} {f : Nat → Nat} {ao : Option Addr} {cap N : Nat} {vals : List Value} (h : GR s va ra w w1 M f ao cap N vals) (hb : Below b w1 W) (hM : M < b) (hk : Kp N w1 W) (hrow : W.ownsRow w.heap.size 120 1 (.slice ao ra.length cap) ra.length vals) (hbw : w.heap.size ≤ b) : GR s va ra w W M f ao cap N vals :=
  ⟨h.lo, Nat.lt_of_lt_of_le h.hi hb.size, h.mc.below hb hM, h.f16, h.fb, (hb.cell (p := ⟨M, 7, none⟩) hM).trans h.c7, hrow, h.mean.mono (fun _ _ g => g.kp hk), h.l8, h.below.trans (hb.mono hbw)⟩
/-- The first that may not stand where it does. -/
def strayP (nx : Nat → Nat) : Nat → Nat → List Nat → Option Nat
  | _, _, [] => none
  | may, i, y :: l => if may.testBit y then strayP nx (nx y) (i + 1) l else some i
def strayE (R : Option Nat) : Ending := match R with
  | some i => .returned (.tuple #[.int .i64 (i : Nat), .bool true])
  | none => .returned (.tuple #[.int .i64 0, .bool false])
def u8s (l : List Nat) : List Value := l.map (fun y => Value.int .u8 (y : Nat))
theorem u8s_flat : ∀ l : List Nat, u8s l = l.flatMap (fun y => [Value.int .u8 (y : Nat)])
  | [] => rfl
  | a :: l => by
    have := u8s_flat l
    unfold u8s at *
    simp [this]
theorem info64s : (Tryd.prog.info? 64).map (fun i => (i.zero, i.size, i.bytes)) = some (some (.int .u8 0), 1, 1) := by kernel_rfl
theorem u8_oneCell (y : Int) : ∀ u ∈ [Value.int .u8 y], u.oneCell' = true := by
  intro u hu; simp at hu; subst hu; rfl

/-- What the rules make together, of a good model. -/
def nxt (s : ByteArray) (va : List VA) (ra : List RA) (y : Nat) : Nat := nxS (ra.map (ruP s (GvA va))) y
theorem nxt_lt {s : ByteArray} {va : List VA} {ra : List RA} (hg : GoodA va ra) {y : Nat} (hy : y < 64) : nxt s va ra y < 18446744073709551616 :=
  nxS_lt hy (fun ρ hρ => by obtain ⟨r, hr, rfl⟩ := List.mem_map.1 hρ; exact ruP_lt hg hr hy)
theorem GR.next {s : ByteArray} {va : List VA} {ra : List RA} {w W : World} {M : Nat} {f : Nat → Nat} {ao : Option Addr} {cap N : Nat} {vals : List Value} (h : GR s va ra w W M f ao cap N vals) (hg : GoodA va ra) (h0 : 0 < W.heap.size) (hT : Tab W) {y : Nat} (hy : y < 64) :
    Calls Tryd.prog 31 #[.pointer (some ⟨M, 0, none⟩), .int .u8 y] W fun e w' => e = .returned (.int .u64 (nxt s va ra y : Nat)) ∧ Below W.heap.size W w' := by
  have hlen := h.mean.length
  have hm : All2 (fun v ρ => Fn1 W v (fun x => .int .u64 (ρ x : Nat))) vals (ra.map (ruP s (GvA va))) := All2.mapr (h.mean.mono (fun _ _ g => g.fn1 h0 hT))
  exact next_any M y hy W ao cap w.heap.size vals (ra.map (ruP s (GvA va))) h.hi (by have := h.l8; omega) (by rw [hlen]; exact h.c7) (by rw [hlen]; exact h.row) hm (fun ρ hρ => by obtain ⟨r, hr, rfl⟩ := List.mem_map.1 hρ; exact ruP_lt hg hr hy)

set_option maxRecDepth 100000 in
set_option maxHeartbeats 1600000 in
theorem stray_any {s : ByteArray} {va : List VA} {ra : List RA} {w W : World} {M : Nat} {f : Nat → Nat} {ao : Option Addr} {cap N : Nat} {vals : List Value} (hR : GR s va ra w W M f ao cap N vals) (hg : GoodA va ra) (h0 : 0 < W.heap.size) (hT : Tab W)
    (xs : List Nat) (loop : Nat) (v : Value) (hx : ∀ y ∈ xs, y < 64) (hl : loop < xs.length) (h7 : xs.length ≤ 7000) (b : Nat) (hwb : w.heap.size ≤ b) (hbM : M < b) (hb0 : 0 < b) (hbw : b ≤ W.heap.size) (hrow : W.ownsRow b 64 1 v xs.length (u8s xs)) :
    Calls Tryd.prog 35 #[.pointer (some ⟨M, 0, none⟩), v, .int .i64 loop] W fun e w' => e = strayE (strayP (nxt s va ra) (frs f va.length) 0 (xs ++ [xs[loop]])) ∧ Below b W w' := by
  obtain ⟨ys, hys⟩ : ∃ ys, ys = xs ++ [xs[loop]] := ⟨_, rfl⟩
  have hy64 : ∀ y ∈ ys, y < 64 := fun y hy => by
    rw [hys] at hy
    rcases List.mem_append.1 hy with hy | hy
    · exact hx y hy
    · simp at hy; rw [hy]; exact hx _ (List.getElem_mem hl)
  have hyl : ys.length = xs.length + 1 := by rw [hys]; simp
  rw [← hys]
  obtain ⟨ao1, cap1, rfl⟩ := owned_slice' hrow
  obtain ⟨g, rfl, hg1, hg2, hg3, hcell⟩ : ∃ g, ao1 = some ⟨g, 0, none⟩ ∧ b ≤ g ∧ g < W.heap.size ∧ xs.length ≤ cap1 ∧ ∀ k (hk : k < xs.length), W.cell? ⟨g, k, none⟩ = some (.int .u8 (xs[k] : Nat)) := by
    rw [u8s_flat] at hrow
    obtain ⟨g, h1, h3, h4, h5, h6⟩ := row_at (z := 1) (fun _ => rfl) hrow (by omega)
    exact ⟨g, h1, h3, h4, h5, fun k hk => by have := h6 k hk 0 (by omega); simpa using this⟩
  have hcl := hcell loop hl
  have HR : Put (_) := ⟨hR⟩
  have HG : Put (_) := ⟨hg⟩
  have HY : Put (_ = _) := ⟨hys⟩
  have HY64 : Put (_) := ⟨hy64⟩
  have HROW : Put (_) := ⟨hrow⟩
  have i0 : (0 : Int) ≤ (loop : Int) := by omega
  have i1 : (loop : Int) < (xs.length : Int) := by omega
  obtain ⟨j0, hi, hz0, hz1, hz2⟩ := info_parts info64s
  have hF := first_any M va.length (GvA va) f hg.l1 hg.l3 hR.f16 W hR.mc hR.hi hT
  have hFL := frs_lt f va.length hg.l3
  obtain ⟨F, hF0⟩ : ∃ F, F = frs f va.length := ⟨_, rfl⟩
  rw [← hF0] at hFL hF ⊢
  rw [p64] at hFL
  obtain ⟨R, hRr⟩ : ∃ R, R = strayP (nxt s va ra) F 0 ys := ⟨_, rfl⟩
  rw [← hRr]
  have HRr : Put (_ = _) := ⟨hRr⟩
  clear hR hg hys hy64 hrow hcell hF0 hRr
  go_enter Tryd.func35, Tryd.ntmps35
  go_wp2_with fail
  refine hF.mono ?_
  rintro e w1 ⟨rfl, hb1⟩
  clear hF
  have hcl1 := (hb1.cell (p := ⟨g, loop, none⟩) hg2).trans hcl
  have HROW1 : Put (_) := ⟨hb1.ownsRow' HROW.out⟩
  have hs1 := hb1.size
  clear HROW hcl
  go_wp2_with (at_builtin; refine wpList_append_own _ rfl _ _ 72 rfl b 64 j0 _ 1 1 Tryd.underlying72 hi hz0 hz1 hz2 rfl Nat.one_pos _ _ _ rfl (HROW1.out.alloc _) ⟨w1.heap.size, 0, none⟩ 1 1 [.int .u8 (xs[loop] : Nat)] rfl rfl (cell_one_new _ _ _) (u8_oneCell _) (by unfold maxLen; omega) (by omega) (by simp; omega) ?_)
  intro v' w2 hown' hgrow _
  obtain ⟨g5, cap5, rfl⟩ := ownsRow_succ hown'
  have hys5 : u8s xs ++ [.int .u8 (xs[loop] : Nat)] = u8s ys := by rw [HY.out]; simp [u8s]
  rw [hys5] at hown'
  have hb2 : Below b W w2 := ((hb1.mono hbw).alloc (by omega) _).grown hgrow (by simp; omega) (ge_own (Nat.le_refl _) HROW1.out)
  have hk2 : ∀ Z, Kp Z W w2 := fun Z => ((Kp.of_below hb1).trans (Kp.alloc Z _ _)).trans (Kp.grown (HROW1.out.alloc _) (.inl (by decide)) hgrow)
  have HR2 : Put (GR s va ra w w2 M f ao cap N vals) := ⟨HR.out.upK hb2 hbM (hk2 N) (((hb1.ownsRow' HR.out.row).alloc _).kept hgrow (apart_of_types (hb1.ownsRow' HR.out.row) HROW1.out (by decide))) hwb⟩
  have hT2 : Tab w2 := hT.below hb2 hb0
  have hs2 : 0 < w2.heap.size := Nat.lt_of_lt_of_le h0 hb2.size
  obtain ⟨gy, hgy, hgy1, hgy2, _, hcy⟩ : ∃ gy, some (⟨g5, 0, none⟩ : Addr) = some ⟨gy, 0, none⟩ ∧ b ≤ gy ∧ gy < w2.heap.size ∧ ys.length ≤ cap5 ∧ ∀ k (hk : k < ys.length), w2.cell? ⟨gy, k, none⟩ = some (.int .u8 (ys[k] : Nat)) := by
    rw [u8s_flat, ← hyl] at hown'
    obtain ⟨g, h1, h3, h4, h5, h6⟩ := row_at (z := 1) (fun _ => rfl) hown' (by omega)
    exact ⟨g, h1, h3, h4, h5, fun k hk => by have := h6 k hk 0 (by omega); simpa using this⟩
  obtain rfl : g5 = gy := by simpa using hgy
  have HCY : Put (_) := ⟨hcy⟩
  have HB2 : Put (_) := ⟨hb2⟩
  clear hcy hown' hgrow hk2 hb2 hb1 HR HROW1 hcl1 hgy hys5
  go_wp2_with fail
  go_loopg [8, 21] ys.length (fun gk mv iv wr => ∃ (i m : Nat), iv = .int .i64 i ∧ mv = .int .u64 m ∧ i + gk = ys.length ∧ m < 18446744073709551616 ∧ Below w2.heap.size w2 wr ∧ R = strayP (nxt s va ra) m i (ys.drop i))
  case atStart => exact ⟨0, F, rfl, rfl, by omega, hFL, Below.refl _ _, by rw [List.drop_zero]; exact HRr.out⟩
  case round =>
    clear HRr
    obtain ⟨i, m, rfl, rfl, hik, hm, hBr, hRi⟩ := hrel
    have hsr := hBr.size
    by_cases hlt : i < ys.length
    · have hlt' : (i : Int) < (xs.length : Int) + 1 := by omega
      have k0 : (0 : Int) ≤ (i : Int) := by omega
      obtain ⟨g', rfl⟩ : ∃ g', gk = g' + 1 := ⟨gk - 1, by omega⟩
      have q := (hBr.cell (p := ⟨g5, i, none⟩) hgy2).trans (HCY.out i hlt)
      have hy := HY64.out _ (List.getElem_mem hlt)
      rw [List.drop_eq_getElem_cons hlt, strayP] at hRi
      have HNX : Put (_) := ⟨(HR2.out.up hBr).next HG.out (Nat.lt_of_lt_of_le hs2 hsr) (hT2.below hBr hs2) hy⟩
      have hnl := nxt_lt (s := s) HG.out hy
      generalize ys[i] = y at *
      have HRi : Put (_ = _) := ⟨hRi⟩
      clear hRi
      cases hb : m.testBit y with
      | true =>
        have HRj : Put (R = strayP (nxt s va ra) (nxt s va ra y) (i + 1) (ys.drop (i + 1))) := ⟨by have := HRi.out; rw [hb] at this; exact this⟩
        clear HRi
        go_wp2_with fail
        refine (has64_any m y hm hy _).mono ?_
        rintro e w3 ⟨rfl, rfl⟩
        rw [hb]
        go_wp2_with fail
        refine HNX.out.mono ?_
        rintro e w4 ⟨rfl, hb4⟩
        have hB4 := hBr.trans (hb4.mono hsr)
        clear hb4 hBr HNX
        generalize nxt s va ra y = m2 at *
        go_wp2
        go_roundg g'
        case measure => exact Nat.lt_succ_self _
        case rel => exact ⟨i + 1, m2, by go_num, rfl, by omega, hnl, hB4, HRj.out⟩
      | false =>
        have HRj : Put (R = some i) := ⟨by have := HRi.out; rw [hb] at this; exact this⟩
        clear HRi
        go_wp2_with fail
        refine (has64_any m y hm hy _).mono ?_
        rintro e w3 ⟨rfl, rfl⟩
        rw [hb]
        have FIN : Put (Below b W w3) := ⟨HB2.out.trans (hBr.mono (Nat.le_trans hbw HB2.out.size))⟩
        clear hBr HNX
        go_wp2
        go_ret2
        exact ⟨by rw [HRj.out]; rfl, FIN.out⟩
    · obtain rfl : i = ys.length := by omega
      have hlt' : ¬ ((ys.length : Int) < (xs.length : Int) + 1) := by omega
      rw [List.drop_length] at hRi
      have HRj : Put (R = none) := ⟨hRi⟩
      have FIN : Put (Below b W wr) := ⟨HB2.out.trans (hBr.mono (Nat.le_trans hbw HB2.out.size))⟩
      clear hRi hBr
      go_wp2
      go_ret2
      exact ⟨by rw [HRj.out]; rfl, FIN.out⟩
end Go.Proofs.YtkbmolodljenjaaDoor

/- The code: the states of a lasso's list. Our own text. -/
namespace Go.Proofs.YtkbmolodljenjaaDoor
open Go.RowKit Go.Lib

theorem made_u8s (n : Nat) : (madeCells #[Value.int .u8 0] n).toList = u8s (List.replicate n 0) := by
  apply List.ext_getElem
  · simp [madeCells, u8s]
  · intro i h1 h2
    simp [madeCells, u8s, Nat.mod_one]
theorem u8s_set (l : List Nat) (i x : Nat) : (u8s l).set i (.int .u8 (x : Nat)) = u8s (l.set i x) := by simp [u8s, List.map_set]
theorem fill_next (xs : List Nat) (k x : Nat) : (xs ++ List.replicate (k + 1) 0).set xs.length x = (xs ++ [x]) ++ List.replicate k 0 := by
  simp [List.replicate_succ]

theorem IsS.okS {st : ByteArray} {n : Nat} {g : Nat → Nat} {x : Nat} (h : IsS st n g x) : OkS st n g :=
  ⟨h.2.1, fun k hk => by have := h.2.2.1 k hk; omega⟩
/-- How lasso ends. -/
def LassoPost (L : List ByteArray) (loop : Int) (n : Nat) (g : Nat → Nat) (W : World) (e : Ending) (w' : World) : Prop :=
  Below W.heap.size W w' ∧
  ((7000 < L.length ∧ e = .returned (.tuple #[.slice none 0 0, .int .i64 1, .int .i64 0])) ∨
   (L.length ≤ 7000 ∧ ∃ (i : Nat) (hi : i < L.length), ¬ OkS L[i] n g ∧ (∀ j (hj : j < i), OkS (L[j]'(Nat.lt_trans hj hi)) n g) ∧ e = .returned (.tuple #[.slice none 0 0, .int .i64 8, .int .i64 (i : Nat)])) ∨
   (L.length ≤ 7000 ∧ (∀ s ∈ L, OkS s n g) ∧ ¬ (0 ≤ loop ∧ loop < (L.length : Int)) ∧ e = .returned (.tuple #[.slice none 0 0, .int .i64 9, .int .i64 0])) ∨
   (L.length ≤ 7000 ∧ 0 ≤ loop ∧ loop < (L.length : Int) ∧ ∃ (xs : List Nat) (v : Value) (hx : xs.length = L.length), (∀ i (hi : i < L.length), IsS L[i] n g (xs[i]'(by omega))) ∧ w'.ownsRow W.heap.size 64 1 v xs.length (u8s xs) ∧ e = .returned (.tuple #[v, .int .i64 0, .int .i64 0])))

set_option maxRecDepth 100000 in
set_option maxHeartbeats 1600000 in
theorem lasso_any (M n : Nat) (g f : Nat → Nat) (hn : n ≤ 3) (hg : ∀ k, g k ≤ 3) (L : List ByteArray) (hL : ∀ s ∈ L, s.size ≤ maxLen) (loop : Int) (v : Value) (bL : Nat) (W : World) (hm : MC M g f n W) (hM : M < W.heap.size) (hrow : W.ownsRow bL 9 1 v L.length (bys L)) :
    Calls Tryd.prog 34 #[.pointer (some ⟨M, 0, none⟩), .agg #[v, .int .i64 loop]] W (LassoPost L loop n g W) := by
  have hlen := own_len hrow
  obtain ⟨aoL, capL, rfl⟩ := owned_slice' hrow
  have hbx := heap_alloc_new W (.cells #[.slice aoL L.length capL, .int .i64 loop] 42)
  have hB1 : Below W.heap.size W (W.alloc (.cells #[.slice aoL L.length capL, .int .i64 loop] 42)) := (Below.refl _ _).alloc (Nat.le_refl _) _
  have q0 := two_cell0 hbx
  have q1 := two_cell1 hbx
  have hsz1 : (W.alloc (.cells #[.slice aoL L.length capL, .int .i64 loop] 42)).heap.size = W.heap.size + 1 := by simp
  by_cases h7 : 7000 < L.length
  · have h7' : (7000 : Int) < (L.length : Int) := by omega
    have HB : Put (_) := ⟨hB1⟩
    clear hm hrow hbx hB1
    go_enter Tryd.func34, Tryd.ntmps34
    go_wp2
    refine bodyPost_ret (v := .tuple #[.slice none 0 0, .int .i64 1, .int .i64 0]) (by simp [results, Tryd.results34, go_sem]) rfl ?_
    exact ⟨HB.out, .inl ⟨h7, rfl⟩⟩
  · have h7' : ¬ (7000 : Int) < (L.length : Int) := by omega
    obtain ⟨j0, hi, hz0, hz1, hz2⟩ := info_parts info64s
    have HM : Put (_) := ⟨hm⟩
    have HROW : Put (_) := ⟨hrow⟩
    have HBX : Put (_ ∧ _) := ⟨hbx, hB1⟩
    have HL : Put (_) := ⟨hL⟩
    clear hm hrow hbx hB1 hL
    go_enter Tryd.func34, Tryd.ntmps34
    go_wp2_with (at_make; refine wpList_make_full _ rfl _ _ 72 rfl W.heap.size 64 j0 _ 1 Tryd.underlying72 hi hz0 hz1 .i64 .i64 _ _ L.length rfl rfl rfl rfl (by rw [hz2]; omega) (by unfold maxLen; omega) (by simp) ?_)
    intro w2 hown hgr
    rw [made_u8s] at hown
    have hB2 : Below W.heap.size W w2 := HBX.out.2.grown hgr (by simp) (fun k h => by cases h)
    have hbox2 : w2.heap[W.heap.size]? = some (.cells #[.slice aoL L.length capL, .int .i64 loop] 42 (0, 0)) := (hgr.block W.heap.size (by simp) (by simp)).trans HBX.out.1
    have q0' := two_cell0 hbox2
    have HO : Put (_) := ⟨hown⟩
    have HB2 : Put (_ ∧ _) := ⟨hB2, hbox2⟩
    clear hown hgr hB2 hbox2 HBX q0 q1
    clear hsz1
    go_wp2_with fail
    go_loopg [23] L.length (fun gk iv wr => ∃ (i : Nat) (xs : List Nat), iv = .int .i64 i ∧ i + gk = L.length ∧ xs.length = i ∧ Put (∀ k (hk : k < xs.length) (hk' : k < L.length), IsS L[k] n g xs[k]) ∧ Below W.heap.size W wr ∧ Put (wr.ownsRow W.heap.size 64 1 (.slice (some ⟨W.heap.size + 1, 0, none⟩) L.length L.length) L.length (u8s (xs ++ List.replicate gk 0))) ∧ Put (wr.heap[W.heap.size]? = some (.cells #[.slice aoL L.length capL, .int .i64 loop] 42 (0, 0))))
    case atStart => exact ⟨0, [], rfl, by omega, rfl, ⟨fun k hk => absurd hk (Nat.not_lt_zero _)⟩, HB2.out.1, ⟨by simpa using HO.out⟩, ⟨HB2.out.2⟩⟩
    case round =>
      clear HB2 HO
      obtain ⟨i, xs, rfl, hik, hxl, HI, hBr, HO, HX⟩ := hrel
      have hsr := hBr.size
      have hMr : M < wr.heap.size := Nat.lt_of_lt_of_le hM hsr
      by_cases hlt : i < L.length
      · have hlt' : (i : Int) < (L.length : Int) := by omega
        have k0 : (0 : Int) ≤ (i : Int) := by omega
        obtain ⟨g', rfl⟩ : ∃ g', gk = g' + 1 := ⟨gk - 1, by omega⟩
        obtain ⟨gL, capL', eL, hgL1, hgL2, hgL3, hcL⟩ := bys_at HROW.out (by omega)
        obtain ⟨rfl, rfl⟩ : aoL = some ⟨gL, 0, none⟩ ∧ capL = capL' := by simpa using eL
        have q := (hBr.cell (p := ⟨gL, i, none⟩) hgL2).trans (hcL i hlt)
        have HST : Put (_) := ⟨state_any M n g f hn hg L[i] (HL.out _ (List.getElem_mem hlt)) wr (HM.out.below hBr hM) hMr⟩
        have hbw := lt_of_block HX.out
        rcases HO.out.2 with ⟨h, _⟩ | ⟨gO, capO, cur, eO, hgO, hgO', hcO, r⟩
        · cases h
        obtain ⟨rfl, rfl⟩ : W.heap.size + 1 = gO ∧ L.length = capO := by simpa using eO
        clear eL hcL eO
        go_wp2_with fail
        refine HST.out.mono ?_
        rintro e w3 ⟨hres, hb3⟩
        have hB3 : Below W.heap.size W w3 := hBr.trans (hb3.mono hsr)
        have HX3 : Put (_) := ⟨(hb3.block _ hbw).trans HX.out⟩
        have HO3 : Put (_) := ⟨hb3.ownsRow' HO.out⟩
        have hgO3 := (hb3.block _ (lt_of_block hgO')).trans hgO'
        clear hb3 hBr HST q
        rcases hres with ⟨x, hx, rfl⟩ | ⟨hno, z, rfl⟩
        · obtain ⟨_, hcs, _⟩ := r
          have hics : i < cur.size := by omega
          have c1 : w3.cell? ⟨W.heap.size + 1, i, none⟩ = some cur[i] := by simp [World.cell?, hgO3, Array.getElem?_eq_getElem hics]
          have f1 : w3.frozen? ⟨W.heap.size + 1, i, none⟩ = false := by simp [World.frozen?, hgO3]
          have HN : Put ((w3.setCell ⟨W.heap.size + 1, i, none⟩ (.int .u8 (x : Nat))).ownsRow W.heap.size 64 1 (.slice (some ⟨W.heap.size + 1, 0, none⟩) L.length L.length) L.length (u8s ((xs ++ [x]) ++ List.replicate g' 0))) := ⟨by
            have := (HO3.out.stored i (.int .u8 (x : Nat))).1
            rw [u8s_set] at this
            have e := fill_next xs g' x
            rw [hxl] at e
            rw [e] at this
            exact this⟩
          have HI' : Put (∀ k (hk : k < (xs ++ [x]).length) (hk' : k < L.length), IsS L[k] n g (xs ++ [x])[k]) := ⟨fun k hk hk' => by
            by_cases e : k < xs.length
            · rw [List.getElem_append_left e]; exact HI.out k e hk'
            · obtain rfl : k = i := by simp at hk; omega
              have : (xs ++ [x])[k]'hk = x := by simp [hxl]
              rw [this]; exact hx⟩
          have HX' : Put ((w3.setCell ⟨W.heap.size + 1, i, none⟩ (.int .u8 (x : Nat))).heap[W.heap.size]? = some (.cells #[.slice (some ⟨gL, 0, none⟩) L.length capL, .int .i64 loop] 42 (0, 0))) := ⟨(heap_setCell_other _ _ _ _ (by show W.heap.size ≠ W.heap.size + 1; omega)).trans HX3.out⟩
          have hB4 := hB3.setCell (p := ⟨W.heap.size + 1, i, none⟩) (by show W.heap.size ≤ W.heap.size + 1; omega) (.int .u8 (x : Nat))
          have hxl' : (xs ++ [x]).length = i + 1 := by simp [hxl]
          clear hB3 HX3 HO3 hgO3 hgO' HO HX HI hcs hx
          go_wp2
          go_roundg g'
          case measure => exact Nat.lt_succ_self _
          case rel => exact ⟨i + 1, xs ++ [x], by go_num, by omega, hxl', HI', hB4, HN, HX'⟩
        · have FIN : Put (LassoPost L loop n g W (.returned (.tuple #[.slice none 0 0, .int .i64 8, .int .i64 (i : Nat)])) w3) := ⟨hB3, .inr (.inl ⟨by omega, i, hlt, hno, fun j hj => (HI.out j (by omega) (by omega)).okS, rfl⟩)⟩
          clear hB3 HX3 HO3 hgO3 hgO' HO HX HI hno
          go_wp2
          refine bodyPost_ret (v := .tuple #[.slice none 0 0, .int .i64 8, .int .i64 (i : Nat)]) (by simp [results, Tryd.results34, go_sem]) rfl ?_
          exact FIN.out
      · obtain rfl : i = L.length := by omega
        have hlt' : ¬ ((L.length : Int) < (L.length : Int)) := by omega
        obtain rfl : gk = 0 := by omega
        have q1 := two_cell1 HX.out
        have hok : ∀ s ∈ L, OkS s n g := fun s hs => by
          obtain ⟨k, hk, rfl⟩ := List.getElem_of_mem hs
          exact (HI.out k (by omega) hk).okS
        by_cases hlo : loop < 0
        · have FIN : Put (LassoPost L loop n g W (.returned (.tuple #[.slice none 0 0, .int .i64 9, .int .i64 0])) wr) := ⟨hBr, .inr (.inr (.inl ⟨by omega, hok, by omega, rfl⟩))⟩
          clear HI HO HX hBr hok
          go_wp2
          refine bodyPost_ret (v := .tuple #[.slice none 0 0, .int .i64 9, .int .i64 0]) (by simp [results, Tryd.results34, go_sem]) rfl ?_
          exact FIN.out
        · by_cases hhi : (L.length : Int) ≤ loop
          · have FIN : Put (LassoPost L loop n g W (.returned (.tuple #[.slice none 0 0, .int .i64 9, .int .i64 0])) wr) := ⟨hBr, .inr (.inr (.inl ⟨by omega, hok, by omega, rfl⟩))⟩
            clear HI HO HX hBr hok
            go_wp2
            refine bodyPost_ret (v := .tuple #[.slice none 0 0, .int .i64 9, .int .i64 0]) (by simp [results, Tryd.results34, go_sem]) rfl ?_
            exact FIN.out
          · have FIN : Put (LassoPost L loop n g W (.returned (.tuple #[.slice (some ⟨W.heap.size + 1, 0, none⟩) L.length L.length, .int .i64 0, .int .i64 0])) wr) := ⟨hBr, .inr (.inr (.inr ⟨by omega, by omega, by omega, xs, _, hxl, fun k hk => HI.out k (by omega) hk, by have := HO.out; simp at this; rw [hxl]; exact this, rfl⟩))⟩
            clear HI HO HX hBr hok
            go_wp2
            refine bodyPost_ret (v := .tuple #[.slice (some ⟨W.heap.size + 1, 0, none⟩) L.length L.length, .int .i64 0, .int .i64 0]) (by simp [results, Tryd.results34, go_sem]) rfl ?_
            exact FIN.out
end Go.Proofs.YtkbmolodljenjaaDoor
