/- First states: the two lists are the same. Pure. Our own text. -/
import Derived.Test.YtkbmolodljenjaaDoorNFirst
import Derived.Test.YtkbmolodljenjaaDoorNMakes
namespace Go.Proofs.YtkbmolodljenjaaDoor

theorem isFP_iff : ∀ (ls : List (List Nat)) (d : List Nat), d.length = ls.length → (isFP ls d = true ↔ ∀ k (h : k < ls.length) (h' : k < d.length), ls[k].contains d[k] = true)
  | [], _, _ => by simp [isFP]
  | _ :: _, [], h => by simp at h
  | l :: ls, x :: d, h => by
    have ih := isFP_iff ls d (by simpa using h)
    show (l.contains x && isFP ls d) = true ↔ _
    rw [Bool.and_eq_true, ih]
    constructor
    · rintro ⟨h1, h2⟩ k hk hk'
      cases k with
      | zero => exact h1
      | succ k => exact h2 k (by simpa using hk) (by simpa using hk')
    · intro h
      exact ⟨h 0 (by simp) (by simp), fun k hk hk' => h (k + 1) (by simpa using hk) (by simpa using hk')⟩
theorem valid_iff (tops : List Nat) (h3 : tops.length ≤ 3) (x : Nat) : valid tops x = true ↔ (∀ k (h : k < tops.length), dig x k ≤ tops[k]) ∧ ∀ k, tops.length ≤ k → k < 3 → dig x k = 0 := by
  unfold valid
  rw [List.all_eq_true]
  constructor
  · intro h
    refine ⟨fun k hk => ?_, fun k hk h3 => ?_⟩
    · have := h k (by simp; omega)
      simpa [List.getElem?_eq_getElem hk] using this
    · have := h k (by simp; omega)
      simpa [List.getElem?_eq_none hk] using this
  · rintro ⟨h1, h2⟩ k hk
    simp at hk
    by_cases hl : k < tops.length
    · simp [List.getElem?_eq_getElem hl, h1 k hl]
    · simp [List.getElem?_eq_none (Nat.le_of_not_lt hl), h2 k (by omega) hk]
theorem digs_get (n x k : Nat) (h : k < (digs n x).length) : (digs n x)[k] = dig x k := by simp [digs]

theorem firsts_same (tops : List Nat) (ls : List (List Nat)) (f : Nat → Nat) (h1 : 1 ≤ tops.length) (h3 : tops.length ≤ 3) (ht : ∀ t ∈ tops, 1 ≤ t ∧ t ≤ 3) (hl : ls.length = tops.length)
    (hf : ∀ k (h : k < ls.length), ∀ v, v < 4 → ((f k).testBit v = true ↔ v ∈ ls[k])) (hle : ∀ k (h : k < ls.length) (h' : k < tops.length), ∀ v ∈ ls[k], v ≤ tops[k]) :
    (mem (frs f tops.length)).map (fun i => digs tops.length i.val) = (allL tops).filter (isFP ls) := by
  apply lists_same tops h1 h3 ht
  intro x hx
  rw [Bool.eq_iff_iff, Bool.and_eq_true, frs_bit f tops.length x h3 hx, valid_iff tops h3 x, isFP_iff ls _ (by simp [digs, hl])]
  constructor
  · rintro ⟨a, b⟩
    refine ⟨⟨fun k hk => ?_, b⟩, fun k hk hk' => ?_⟩
    · exact hle k (by omega) hk _ ((hf k (by omega) _ (dig_lt _ _)).1 (a k hk))
    · rw [digs_get, List.contains_iff_mem]
      exact (hf k hk _ (dig_lt _ _)).1 (a k (by omega))
  · rintro ⟨⟨a, b⟩, c⟩
    refine ⟨fun j hj => ?_, b⟩
    have := c j (by omega) (by simp [digs]; exact hj)
    rw [digs_get, List.contains_iff_mem] at this
    exact (hf j (by omega) _ (dig_lt _ _)).2 this
end Go.Proofs.YtkbmolodljenjaaDoor

namespace Go.Proofs.YtkbmolodljenjaaDoor

theorem pow_bit (x y : Nat) : (2 ^ x).testBit y = true ↔ x = y := by rw [Nat.testBit_two_pow]; simp

/-- Changes, one behind the other, of different variables. -/
def chF (ds : List (Nat × Nat)) (m : Nat) : Nat := ds.foldl (fun made d => spr made d.1 d.2) m
theorem chF_bit : ∀ (ds : List (Nat × Nat)) (m y : Nat), y < 64 → (∀ d ∈ ds, d.1 < 3) → (ds.map Prod.fst).Nodup →
    ((chF ds m).testBit y = true ↔ (∀ d ∈ ds, d.2.testBit (dig y d.1) = true) ∧ ∃ x, x < 64 ∧ m.testBit x = true ∧ ∀ j, j < 3 → j ∉ ds.map Prod.fst → dig x j = dig y j)
  | [], m, y, hy, _, _ => by
    show m.testBit y = true ↔ _
    constructor
    · intro h; exact ⟨by simp, y, hy, h, fun _ _ _ => rfl⟩
    · rintro ⟨_, x, hx, h, hd⟩
      have : x = y := dig_ext hx hy (fun j hj => hd j hj (by simp))
      rw [← this]; exact h
  | d :: ds, m, y, hy, h3, hn => by
    have hd3 := h3 d (by simp)
    have hn' : d.1 ∉ ds.map Prod.fst ∧ (ds.map Prod.fst).Nodup := by simpa using hn
    have ih := chF_bit ds (spr m d.1 d.2) y hy (fun e he => h3 e (by simp [he])) hn'.2
    show (chF ds (spr m d.1 d.2)).testBit y = true ↔ _
    rw [ih]
    constructor
    · rintro ⟨h1, x, hx, hs, hd⟩
      obtain ⟨h4, z, hz, hm, hdz⟩ := (spr_bit hd3 hx).1 hs
      refine ⟨fun e he => ?_, z, hz, hm, fun j hj hnj => ?_⟩
      · rcases List.mem_cons.1 he with rfl | he
        · rw [← hd _ hd3 hn'.1]; exact h4
        · exact h1 e he
      · have hne : j ≠ d.1 := fun e => hnj (by simp [e])
        have hnj' : j ∉ ds.map Prod.fst := fun e => hnj (by rw [List.map_cons]; exact List.mem_cons_of_mem _ e)
        rw [hdz j hj hne]; exact hd j hj hnj'
    · rintro ⟨h1, z, hz, hm, hd⟩
      refine ⟨fun e he => h1 e (by simp [he]), stW z d.1 (dig y d.1), stW_lt hz hd3 (dig_lt _ _), ?_, fun j hj hnj => ?_⟩
      · refine (spr_bit hd3 (stW_lt hz hd3 (dig_lt _ _))).2 ⟨?_, z, hz, hm, fun j hj hne => ?_⟩
        · rw [dig_stW hz hd3 (dig_lt _ _) hd3, if_pos rfl]; exact h1 d (by simp)
        · rw [dig_stW hz hd3 (dig_lt _ _) hj, if_neg hne]
      · rw [dig_stW hz hd3 (dig_lt _ _) hj]
        by_cases e : j = d.1
        · rw [if_pos e, e]
        · rw [if_neg e]
          refine hd j hj (fun h => ?_)
          rw [List.map_cons, List.mem_cons] at h
          rcases h with h | h
          · exact e h
          · exact hnj h
/-- They leave something. -/
theorem chF_some : ∀ (ds : List (Nat × Nat)) (m : Nat), (∀ d ∈ ds, d.1 < 3) → (∀ d ∈ ds, ∃ v, v < 4 ∧ d.2.testBit v = true) → (∃ x, x < 64 ∧ m.testBit x = true) → ∃ y, y < 64 ∧ (chF ds m).testBit y = true
  | [], _, _, _, h => h
  | d :: ds, m, h3, hv, ⟨x, hx, hm⟩ => by
    obtain ⟨v, hv4, hvb⟩ := hv d (by simp)
    have hd3 := h3 d (by simp)
    refine chF_some ds (spr m d.1 d.2) (fun e he => h3 e (by simp [he])) (fun e he => hv e (by simp [he])) ⟨stW x d.1 v, stW_lt hx hd3 hv4, ?_⟩
    refine (spr_bit hd3 (stW_lt hx hd3 hv4)).2 ⟨by rw [dig_stW hx hd3 hv4 hd3, if_pos rfl]; exact hvb, x, hx, hm, fun j hj hne => by rw [dig_stW hx hd3 hv4 hj, if_neg hne]⟩
theorem chF_lt : ∀ (ds : List (Nat × Nat)) (m : Nat), (∀ d ∈ ds, d.1 < 3) → m < 2 ^ 64 → chF ds m < 2 ^ 64
  | [], _, _, h => h
  | d :: ds, m, h3, _ => chF_lt ds (spr m d.1 d.2) (fun e he => h3 e (by simp [he])) (spr_lt (h3 d (by simp)))

/-! What the text says, of a state's number. -/
def tmV (t : Tm) (x : Nat) : Nat := if t.1 < 0 then t.2.1.toNat else dig x t.1.toNat
def cmpP (op : Nat) (a b : Nat) : Bool := if op = 61 then a == b else if op = 35 then a != b else decide (a < b)
def cdP (s : ByteArray) (c : Tm × Tm) (x : Nat) : Bool := cmpP (byteAt s (c.1.2.2.toNat + 1)) (tmV c.1 x) (tmV c.2 x)
def toP (s : ByteArray) (d : Chg) (count x : Nat) : Nat := match d.2.2.1 with
  | true => 2 ^ count - 1
  | false => 2 ^ ((tmV d.2.2.2 x + (moreAt s false d.2.2.2.2.2).toNat) % count)
def dsP (s : ByteArray) (G : Nat → Nat) (l : List Chg) (x : Nat) : List (Nat × Nat) := l.map (fun d => (d.1.toNat, toP s d (G d.1.toNat + 1) x))
def ruP (s : ByteArray) (G : Nat → Nat) (r : RA) (x : Nat) : Nat := if r.1.all (fun c => cdP s c x) then chF (dsP s G r.2 x) (2 ^ x) else 0
/-- A term of a good model of n variables. -/
def TmOk (n : Nat) (t : Tm) : Prop := t.1 < (n : Int) ∧ 0 ≤ t.2.1 ∧ t.2.1 ≤ 3
theorem wor_tmV {n x : Nat} {t : Tm} (h : TmOk n t) : wor t.1 t.2.1 (digs n x) = (tmV t x : Int) := by
  obtain ⟨h1, h2, _⟩ := h
  unfold wor tmV
  by_cases h0 : t.1 < 0
  · rw [if_pos h0, if_pos h0]; omega
  · rw [if_neg h0, if_neg h0]
    have hk : t.1.toNat < (digs n x).length := by rw [digs_length]; omega
    rw [List.getD_eq_getElem?_getD, List.getElem?_eq_getElem hk]
    simp [digs_get]
theorem cmpP_same {op A B : Int} {o a b : Nat} (ho : op = (o : Int)) (ha : A = (a : Int)) (hb : B = (b : Int)) : (if op = 61 then A == B else if op = 35 then A != B else decide (A < B)) = cmpP o a b := by
  subst ho ha hb
  unfold cmpP
  by_cases h1 : o = 61
  · rw [if_pos (by omega), if_pos h1, Bool.eq_iff_iff]; simp; omega
  · rw [if_neg (by omega), if_neg h1]
    by_cases h2 : o = 35
    · rw [if_pos (by omega), if_pos h2, Bool.eq_iff_iff]; simp; omega
    · rw [if_neg (by omega), if_neg h2, Bool.eq_iff_iff]; simp
theorem so_same {s : ByteArray} {n x : Nat} {c : C7} (ht : C7.Tied s c) (ha : TmOk n c.ast.1) (hb : TmOk n c.ast.2) : soC c (digs n x) = cdP s c.ast x :=
  cmpP_same ht (wor_tmV (x := x) ha) (wor_tmV (x := x) hb)

/-! Makes. -/
theorem wantR_none (d : List Nat) (top v : Nat) : ∀ (dl : List D7) (p : Bool × Int), (∀ c ∈ dl, c.v ≠ (v : Int)) → wantR d top v dl p = p
  | [], _, _ => rfl
  | c :: dl, p, h => by
    unfold wantR
    rw [if_neg (h c (by simp))]
    exact wantR_none d top v dl p (fun e he => h e (by simp [he]))
theorem wantR_mem (d : List Nat) (top v : Nat) : ∀ (dl : List D7) (p : Bool × Int) (c : D7), (dl.map D7.v).Nodup → c ∈ dl → c.v = (v : Int) → wantR d top v dl p = (c.any, (wor c.t0 c.t1 d + c.more) % ((top : Int) + 1))
  | [], _, _, _, h, _ => by simp at h
  | e :: dl, p, c, hn, hc, hv => by
    have hn' : e.v ∉ dl.map D7.v ∧ (dl.map D7.v).Nodup := by simpa using hn
    unfold wantR
    rcases List.mem_cons.1 hc with rfl | hc
    · rw [if_pos hv]
      exact wantR_none d top v dl _ (fun e he hev => hn'.1 (by rw [hv, ← hev]; exact List.mem_map_of_mem he))
    · exact wantR_mem d top v dl _ c hn'.2 hc hv
theorem makesF_iff (dl : List D7) (d0 : List Nat) : ∀ (tops d e : List Nat) (i : Nat), d.length = tops.length → e.length = tops.length →
    (makesF dl d0 i tops d e = true ↔ ∀ k (h : k < tops.length) (h1 : k < d.length) (h2 : k < e.length), (wantR d0 tops[k] (i + k) dl (false, (d[k] : Int))).1 = true ∨ (wantR d0 tops[k] (i + k) dl (false, (d[k] : Int))).2 = (e[k] : Int))
  | [], _, _, _, _, _ => by simp [makesF]
  | _ :: _, [], _, _, h, _ => by simp at h
  | _ :: _, _ :: _, [], _, _, h => by simp at h
  | t :: tops, x :: d, y :: e, i, h1, h2 => by
    have ih := makesF_iff dl d0 tops d e (i + 1) (by simpa using h1) (by simpa using h2)
    unfold makesF
    rw [Bool.and_eq_true, ih, Bool.or_eq_true, beq_iff_eq]
    constructor
    · rintro ⟨ha, hb⟩ k hk hk1 hk2
      cases k with
      | zero => exact ha
      | succ k =>
        have := hb k (by simpa using hk) (by simpa using hk1) (by simpa using hk2)
        have e1 : i + 1 + k = i + (k + 1) := by omega
        rw [e1] at this
        exact this
    · intro h
      refine ⟨h 0 (by simp) (by simp) (by simp), fun k hk hk1 hk2 => ?_⟩
      have := h (k + 1) (by simpa using hk) (by simpa using hk1) (by simpa using hk2)
      have e1 : i + 1 + k = i + (k + 1) := by omega
      rw [e1]
      exact this
/-- A rule of a good model of n variables, tied to its text. -/
structure RuleOk (s : ByteArray) (n : Nat) (r : R2) : Prop where
  tied : R2.Tied s r
  conds : ∀ c ∈ r.cl, TmOk n c.ast.1 ∧ TmOk n c.ast.2
  chgs : ∀ c ∈ r.dl, 0 ≤ c.v ∧ c.v < (n : Int) ∧ TmOk n (c.t0, c.t1, c.t2) ∧ 0 ≤ c.more ∧ c.more ≤ 3
  once : (r.dl.map D7.v).Nodup
theorem toP_bit {s : ByteArray} {n x : Nat} {c : D7} (ht : D7.Tied s c) (hm : 0 ≤ c.more) (hk : TmOk n (c.t0, c.t1, c.t2)) (top v : Nat) : (toP s c.ast (top + 1) x).testBit v = true ↔ (if c.any = true then v ≤ top else (wor c.t0 c.t1 (digs n x) + c.more) % ((top : Int) + 1) = (v : Int)) := by
  have e1 := wor_tmV (x := x) hk
  simp only at e1
  obtain ⟨cv, cat, t0, t1, t2, more, any⟩ := c
  simp only [D7.Tied] at ht
  simp only [D7.ast, toP] at *
  cases any with
  | true =>
    simp only [if_true]
    rw [Nat.testBit_two_pow_sub_one]
    simp; omega
  | false =>
    rw [pow_bit, e1]
    simp only [Bool.false_eq_true, if_false]
    rw [← ht]
    constructor
    · intro h; rw [← h]
      have : more = (more.toNat : Int) := by omega
      rw [this]; simp
    · intro h
      have h5 : more = (more.toNat : Int) := by omega
      rw [h5] at h
      have : (((tmV (t0, t1, t2) x + more.toNat) % (top + 1) : Nat) : Int) = (v : Int) := by rw [← h]; simp
      omega
theorem rule_bit {s : ByteArray} {tops : List Nat} {G : Nat → Nat} {r : R2} (h3 : tops.length ≤ 3) (hG : ∀ k (h : k < tops.length), G k = tops[k]) (ho : RuleOk s tops.length r) {x y : Nat} (hx : x < 64) (hy : y < 64) (hvx : valid tops x = true) :
    (chF (dsP s G (r.dl.map D7.ast) x) (2 ^ x)).testBit y = true ↔ valid tops y = true ∧ makesF r.dl (digs tops.length x) 0 tops (digs tops.length x) (digs tops.length y) = true := by
  obtain ⟨hx1, hx2⟩ := (valid_iff tops h3 x).1 hvx
  have hkeys : (dsP s G (r.dl.map D7.ast) x).map Prod.fst = (r.dl.map D7.v).map Int.toNat := by simp [dsP, D7.ast, Function.comp_def]
  have hnd : ((dsP s G (r.dl.map D7.ast) x).map Prod.fst).Nodup := by
    rw [hkeys, List.map_map]
    have h1 := ho.once
    have h2 := ho.chgs
    rw [List.nodup_iff_pairwise_ne, List.pairwise_map] at *
    refine h1.imp_of_mem (fun {a b} ha hb hne e => hne ?_)
    have := (h2 a ha).1
    have := (h2 b hb).1
    simp only [Function.comp] at e
    omega
  have hk3 : ∀ d ∈ dsP s G (r.dl.map D7.ast) x, d.1 < 3 := by
    intro d hd
    simp [dsP] at hd
    obtain ⟨c, hc, rfl⟩ := hd
    have := (ho.chgs c hc).2.1
    have := (ho.chgs c hc).1
    show c.v.toNat < 3
    omega
  have hmem : ∀ j : Nat, (j ∈ (dsP s G (r.dl.map D7.ast) x).map Prod.fst ↔ ∃ c ∈ r.dl, c.v = (j : Int)) := by
    intro j
    rw [hkeys, List.map_map, List.mem_map]
    constructor
    · rintro ⟨c, hc, h⟩
      have := (ho.chgs c hc).1
      exact ⟨c, hc, by simp only [Function.comp] at h; omega⟩
    · rintro ⟨c, hc, h⟩
      exact ⟨c, hc, by simp only [Function.comp]; omega⟩
  have hset : (∀ d ∈ dsP s G (r.dl.map D7.ast) x, d.2.testBit (dig y d.1) = true) ↔ ∀ c ∈ r.dl, ∀ k (h : k < tops.length), c.v = (k : Int) → (if c.any = true then dig y k ≤ tops[k] else (wor c.t0 c.t1 (digs tops.length x) + c.more) % ((tops[k] : Int) + 1) = (dig y k : Int)) := by
    constructor
    · intro h c hc k hk hv
      have := h (c.v.toNat, toP s c.ast (G c.v.toNat + 1) x) (by simp [dsP]; exact ⟨c, hc, rfl, rfl⟩)
      have e : c.v.toNat = k := by omega
      simp only [e] at this
      rw [hG k hk] at this
      exact (toP_bit (ho.tied.2 c hc) (ho.chgs c hc).2.2.2.1 (ho.chgs c hc).2.2.1 _ _).1 this
    · intro h d hd
      simp [dsP] at hd
      obtain ⟨c, hc, rfl⟩ := hd
      have h1 := (ho.chgs c hc).1
      have h2 := (ho.chgs c hc).2.1
      have hk : c.v.toNat < tops.length := by omega
      have := h c hc c.v.toNat hk (by omega)
      show (toP s c.ast (G c.v.toNat + 1) x).testBit (dig y c.v.toNat) = true
      rw [hG _ hk]
      exact (toP_bit (ho.tied.2 c hc) (ho.chgs c hc).2.2.2.1 (ho.chgs c hc).2.2.1 _ _).2 this
  rw [chF_bit _ _ _ hy hk3 hnd, hset, valid_iff tops h3 y, makesF_iff _ _ _ _ _ _ (by simp [digs]) (by simp [digs])]
  have hone : (∃ z, z < 64 ∧ (2 ^ x).testBit z = true ∧ ∀ j, j < 3 → j ∉ (dsP s G (r.dl.map D7.ast) x).map Prod.fst → dig z j = dig y j) ↔ ∀ j : Nat, j < 3 → (¬ ∃ c ∈ r.dl, c.v = (j : Int)) → dig x j = dig y j := by
    constructor
    · rintro ⟨z, _, hz, hd⟩ j hj hn
      have : x = z := (pow_bit x z).1 hz
      subst this
      exact hd j hj (fun h => hn ((hmem j).1 h))
    · intro h
      exact ⟨x, hx, (pow_bit x x).2 rfl, fun j hj hn => h j hj (fun h => hn ((hmem j).2 h))⟩
  rw [hone]
  constructor
  · rintro ⟨ha, hb⟩
    refine ⟨⟨fun k hk => ?_, fun k hk hk3 => ?_⟩, fun k hk h1 h2 => ?_⟩
    · by_cases hc : ∃ c ∈ r.dl, c.v = (k : Int)
      · obtain ⟨c, hcm, hcv⟩ := hc
        have := ha c hcm k hk hcv
        by_cases hany : c.any = true
        · rw [if_pos hany] at this; exact this
        · rw [if_neg hany] at this
          have := Int.emod_lt_of_pos (wor c.t0 c.t1 (digs tops.length x) + c.more) (show (0 : Int) < (tops[k] : Int) + 1 by omega)
          omega
      · rw [← hb k (by omega) hc]; exact hx1 k hk
    · rw [← hb k hk3 (fun ⟨c, hcm, hcv⟩ => by have := (ho.chgs c hcm).2.1; omega)]
      exact hx2 k hk hk3
    · rw [digs_get, digs_get, Nat.zero_add]
      by_cases hc : ∃ c ∈ r.dl, c.v = (k : Int)
      · obtain ⟨c, hcm, hcv⟩ := hc
        have := ha c hcm k hk hcv
        rw [wantR_mem _ _ _ _ _ c ho.once hcm hcv]
        by_cases hany : c.any = true
        · exact .inl hany
        · rw [if_neg hany] at this; exact .inr this
      · rw [wantR_none _ _ _ _ _ (fun c hcm hcv => hc ⟨c, hcm, hcv⟩)]
        right
        show ((dig x k : Nat) : Int) = (dig y k : Int)
        rw [hb k (by omega) hc]
  · rintro ⟨⟨hv1, hv2⟩, hm⟩
    have hm' : ∀ k (hk : k < tops.length), (wantR (digs tops.length x) tops[k] k r.dl (false, (dig x k : Int))).1 = true ∨ (wantR (digs tops.length x) tops[k] k r.dl (false, (dig x k : Int))).2 = (dig y k : Int) := by
      intro k hk
      have := hm k hk (by simp [digs]; exact hk) (by simp [digs]; exact hk)
      rw [digs_get, digs_get, Nat.zero_add] at this
      exact this
    refine ⟨fun c hcm k hk hcv => ?_, fun j hj hn => ?_⟩
    · have := hm' k hk
      rw [wantR_mem _ _ _ _ _ c ho.once hcm hcv] at this
      by_cases hany : c.any = true
      · rw [if_pos hany]; exact hv1 k hk
      · rw [if_neg hany]
        rcases this with h | h
        · exact absurd h hany
        · exact h
    · by_cases hjl : j < tops.length
      · have := hm' j hjl
        rw [wantR_none _ _ _ _ _ (fun c hcm hcv => hn ⟨c, hcm, hcv⟩)] at this
        rcases this with h | h
        · simp at h
        · have h' : ((dig x j : Nat) : Int) = (dig y j : Int) := h
          omega
      · rw [hx2 j (by omega) hj, hv2 j (by omega) hj]
end Go.Proofs.YtkbmolodljenjaaDoor
