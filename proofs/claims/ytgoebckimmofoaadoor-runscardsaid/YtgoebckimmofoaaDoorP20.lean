import Derived.Test.YtgoebckimmofoaaDoorP18
import Derived.Test.YtgoebckimmofoaaDoorP19
/- The code's reader: the whole model. Our own text. -/
namespace Go.Proofs.YtgoebckimmofoaaDoor
open Go.RowKit Go.Lib

def pRun (s : ByteArray) : Nat → Nat → T → Nat × Nat
  | 0, _, t => (2, t.at_)
  | f + 1, 1, t => match pVar s t with
    | (false, t') => (2, t'.at_)
    | (true, t') => if t'.n < 3 then (match num? s t'.at_ 44 0 0 with
        | some _ => pRun s f 1 t'.adv
        | none => pRun s f 2 t') else pRun s f 2 t'
  | f + 1, 2, t => if t.at_ = s.size then (t.flt, t.plc) else if t.nr = 8 then (2, t.at_) else match num? s t.at_ 59 0 0 with
    | none => (2, t.at_)
    | some _ => match num? s t.adv.at_ 58 0 0 with
      | some _ => pRun s f 3 t.adv.adv
      | none => pRun s f 4 t.adv
  | f + 1, 3, t => match pChange s t with
    | (false, t') => (2, t'.at_)
    | (true, t') => match num? s t'.at_ 44 0 0 with
      | some _ => pRun s f 3 t'.adv
      | none => pRun s f 2 { t' with nr := t'.nr + 1, chd := 0 }
  | f + 1, 4, t => match pCond s t with
    | (false, t') => (2, t'.at_)
    | (true, t') => match num? s t'.at_ 38 0 0 with
      | some _ => pRun s f 4 t'.adv
      | none => match num? s t'.at_ 58 0 0 with
        | none => (2, t'.at_)
        | some _ => pRun s f 3 t'.adv
  | _ + 1, _, t => (2, t.at_)

theorem pRun_2 (s : ByteArray) (f : Nat) (t : T) : pRun s (f + 1) 2 t = if t.at_ = s.size then (t.flt, t.plc) else if t.nr = 8 then (2, t.at_) else match num? s t.at_ 59 0 0 with
    | none => (2, t.at_)
    | some _ => match num? s t.adv.at_ 58 0 0 with
      | some _ => pRun s f 3 t.adv.adv
      | none => pRun s f 4 t.adv := by rw [pRun]
theorem frameM (a : Act) (p0 : Value) (h : a.tmps.size = 67) (hd : a.defers = []) (h0 : a.tmps.getD 0 undef = p0) : ∃ u : Nat → Value, a = { tmps := #[p0, u 1, u 2, u 3, u 4, u 5, u 6, u 7, u 8, u 9, u 10, u 11, u 12, u 13, u 14, u 15, u 16, u 17, u 18, u 19, u 20, u 21, u 22, u 23, u 24, u 25, u 26, u 27, u 28, u 29, u 30, u 31, u 32, u 33, u 34, u 35, u 36, u 37, u 38, u 39, u 40, u 41, u 42, u 43, u 44, u 45, u 46, u 47, u 48, u 49, u 50, u 51, u 52, u 53, u 54, u 55, u 56, u 57, u 58, u 59, u 60, u 61, u 62, u 63, u 64, u 65, u 66], defers := [] } := by
  obtain ⟨x, d⟩ := a
  refine ⟨fun i => x.getD i undef, ?_⟩
  simp only at h hd h0
  subst hd h0
  have := frame_of x 67 h
  exact congrArg (fun y => Act.mk y []) this

/-- What a reading is held against: whatever goes on at each label. -/
structure Ghost (s : ByteArray) (P : Nat → T → List V2 → List (Tm × Tm) → List Chg → List RA → Prop) : Prop where
  v1 : ∀ {t t' : T} {vs : List V2} {k : Nat}, P 1 t vs [] [] [] → pVar s t = (true, t') → t'.n < 3 → num? s t'.at_ 44 0 0 = some k → P 1 t'.adv (vs ++ [vOf s t.at_]) [] [] []
  v2 : ∀ {t t' : T} {vs : List V2}, P 1 t vs [] [] [] → pVar s t = (true, t') → (t'.n < 3 → num? s t'.at_ 44 0 0 = none) → P 2 t' (vs ++ [vOf s t.at_]) [] [] []
  r3 : ∀ {t : T} {vs : List V2} {rl : List RA} {k k2 : Nat}, P 2 t vs [] [] rl → num? s t.at_ 59 0 0 = some k → num? s t.adv.at_ 58 0 0 = some k2 → P 3 t.adv.adv vs [] [] rl
  r4 : ∀ {t : T} {vs : List V2} {rl : List RA} {k : Nat}, P 2 t vs [] [] rl → num? s t.at_ 59 0 0 = some k → num? s t.adv.at_ 58 0 0 = none → P 4 t.adv vs [] [] rl
  c4 : ∀ {t t' : T} {vs : List V2} {cl : List (Tm × Tm)} {rl : List RA} {k : Nat}, P 4 t vs cl [] rl → pCond s t = (true, t') → num? s t'.at_ 38 0 0 = some k → P 4 t'.adv vs (cl ++ [cdOf s t.at_]) [] rl
  c3 : ∀ {t t' : T} {vs : List V2} {cl : List (Tm × Tm)} {rl : List RA} {k : Nat}, P 4 t vs cl [] rl → pCond s t = (true, t') → num? s t'.at_ 38 0 0 = none → num? s t'.at_ 58 0 0 = some k → P 3 t'.adv vs (cl ++ [cdOf s t.at_]) [] rl
  d3 : ∀ {t t' : T} {vs : List V2} {cl : List (Tm × Tm)} {dl : List Chg} {rl : List RA} {k : Nat}, P 3 t vs cl dl rl → pChange s t = (true, t') → num? s t'.at_ 44 0 0 = some k → P 3 t'.adv vs cl (dl ++ [chOf s t.at_]) rl
  d2 : ∀ {t t' : T} {vs : List V2} {cl : List (Tm × Tm)} {dl : List Chg} {rl : List RA}, P 3 t vs cl dl rl → pChange s t = (true, t') → num? s t'.at_ 44 0 0 = none → P 2 { t' with nr := t'.nr + 1, chd := 0 } vs [] [] (rl ++ [(cl, dl ++ [chOf s t.at_])])
theorem Ghost.any (s : ByteArray) : Ghost s (fun _ _ _ _ _ _ => True) where
  v1 _ _ _ _ := trivial
  v2 _ _ _ := trivial
  r3 _ _ _ := trivial
  r4 _ _ _ := trivial
  c4 _ _ _ := trivial
  c3 _ _ _ _ := trivial
  d3 _ _ _ := trivial
  d2 _ _ _ := trivial

/-- What holds at the labels of 'model'. -/
def JMb (B M : Nat) (s : ByteArray) (P : Nat → T → List V2 → List (Tm × Tm) → List Chg → List RA → Prop) (w0 : World) (R : Nat × Nat) (l m : Nat) (w' : World) : Prop :=
  (l = 0 ∧ m = 0 ∧ ∃ t, Fail B M s t w0 w' ∧ R = (2, t.at_)) ∨
  (∃ (t : T) (x : Junk) (N : Nat) (vs : List V2) (cl : List (Tm × Tm)) (dl : List Chg) (rl : List RA), St B M N s vs t x cl dl rl w0 w' ∧ t.at_ ≤ s.size ∧ s.size + 1 ≤ t.at_ + m ∧ t.chd < 8 ∧ R = pRun s m l t ∧ Put (P l t vs cl dl rl) ∧
    ((l = 1 ∧ t.n < 3 ∧ cl = [] ∧ dl = [] ∧ rl = []) ∨ (l = 2 ∧ cl = [] ∧ dl = []) ∨ (l = 3 ∧ rl.length < 8) ∨ (l = 4 ∧ rl.length < 8 ∧ dl = [])))
def JM (B M : Nat) (s : ByteArray) (P : Nat → T → List V2 → List (Tm × Tm) → List Chg → List RA → Prop) (w0 : World) (R : Nat × Nat) (l m : Nat) (a : Act) (w' : World) : Prop :=
  (a.tmps.size = 67 ∧ a.defers = [] ∧ a.tmps.getD 0 undef = .pointer (some ⟨B, 0, none⟩)) ∧ JMb B M s P w0 R l m w'

section
variable {B M N : Nat} {s : ByteArray} {t : T} {x : Junk} {w0 w : World} {P : Nat → T → List V2 → List (Tm × Tm) → List Chg → List RA → Prop}
set_option maxRecDepth 100000 in
set_option maxHeartbeats 3200000 in
theorem model_any {R : Nat × Nat} (hs : s.size ≤ 120) (hG : Ghost s P) (hat : t.at_ ≤ s.size) (hn : t.n < 3) (hcd : t.chd < 8) (h : St B M N s [] t x [] [] [] w0 w) (hP : P 1 t [] [] [] []) (hp : R = pRun s (s.size + 1) 1 t) :
    Calls Tryd.prog 30 #[.pointer (some ⟨B, 0, none⟩)] w fun e w' => ∃ b, e = .returned (.bool b) ∧ Done b (∃ t', Fail B M s t' w0 w' ∧ R = (2, t'.at_)) (∃ t' x' N vs rl, St B M N s vs t' x' [] [] rl w0 w' ∧ R = (t'.flt, t'.plc) ∧ P 2 t' vs [] [] rl ∧ t'.at_ = s.size) := by
  have HG : Put (Ghost s P) := ⟨hG⟩
  have HJ0 : Put (JMb B M s P w0 R 1 (s.size + 1) w) := ⟨.inr ⟨t, x, N, [], [], [], [], h, hat, by omega, hcd, hp, ⟨hP⟩, .inl ⟨rfl, hn, rfl, rfl, rfl⟩⟩⟩
  clear h hG hP hp hat hn hcd
  go_enter Tryd.func30, Tryd.ntmps30
  go_wp2_with fail
  refine wp_scope_rest (JM B M s P w0 R) ?hf ?pass ?first
  case hf =>
    rintro l m a w' ⟨_, (⟨rfl, _⟩ | ⟨_, _, _, _, _, _, _, _, _, _, _, _, _, (⟨rfl, _⟩ | ⟨rfl, _⟩ | ⟨rfl, _⟩ | ⟨rfl, _⟩)⟩)⟩
    · rfl
    · rfl
    · rfl
    · rfl
    · rfl
  case first =>
    intro ih
    go_wp2
    apply wp_label
    rename_i hK
    exact hK _ _ (ih 1 _ _ ⟨s.size + 1, ⟨rfl, rfl, rfl⟩, HJ0.out⟩)
  case pass =>
    clear HJ0
    rintro m ih l a w' ⟨⟨fz, fd, f0⟩, (⟨rfl, rfl, t1, hF, hRr⟩ | ⟨t1, x1, N, vs, cl, dl, rl, hS, hat, hm, hcd, hRr, HP, (⟨rfl, hn, rfl, rfl, rfl⟩ | ⟨rfl, rfl, rfl⟩ | ⟨rfl, hnr⟩ | ⟨rfl, hnr, rfl⟩)⟩)⟩
    all_goals obtain ⟨u, rfl⟩ := frameM a _ fz fd f0
    all_goals clear fz fd f0
    · show Code.wp Tryd.prog (.seq (.region _ _ _) .ret) _ _ _
      have FIN : Put (∃ t', Fail B M s t' w0 w' ∧ R = (2, t'.at_)) := ⟨t1, hF, hRr⟩
      clear hF hRr
      go_wp2
      rw [jumps_ret]
      go_ret
      exact ⟨false, rfl, FIN.out⟩
    all_goals
      obtain ⟨m', rfl⟩ : ∃ m', m = m' + 1 := ⟨m - 1, by omega⟩
      first | rw [pRun_2] at hRr | unfold pRun at hRr
      have HS : Put (_) := ⟨hS⟩
      clear hS
    · show Code.wp Tryd.prog (.seq _ _) _ _ _
      cases hv : pVar s t1 with
      | mk b t2 =>
        have sv := pVar_same hv hat
        have HV := var_any hs hat hn HS.out hv
        have HVP : Put (_) := ⟨HV⟩
        clear HV
        cases b with
        | false =>
          simp only [hv] at hRr
          go_wp2_with fail
          refine HVP.out.mono ?_; rintro e w1 ⟨rfl, hF⟩
          have hF' : Fail B M s t2 w0 w1 := hF
          have HJ : Put (JMb B M s P w0 R 0 0 w1) := ⟨.inl ⟨rfl, rfl, t2, hF', hRr⟩⟩
          clear hF hF' HS HVP
          go_wp2
          go_step3
          show ∃ m'', m'' < m' + 1 ∧ JM B M s P w0 R 0 m'' _ _
          exact ⟨0, Nat.succ_pos _, ⟨rfl, rfl, rfl⟩, HJ.out⟩
        | true =>
          have s5 := sv.2.2.2.2 rfl
          simp only [hv] at hRr
          by_cases hn3 : t2.n < 3
          · rw [if_pos hn3] at hRr
            have hn3' : (t2.n : Int) < 3 := by omega
            cases h1 : num? s t2.at_ 44 0 0 with
            | some k =>
              simp only [h1] at hRr
              go_wp2_with fail
              refine HVP.out.mono ?_; rintro e w1 ⟨rfl, x2, h2⟩
              have H2 : Put (St B M N s (vs ++ [vOf s t1.at_]) t2 x2 [] [] [] w0 w1) := ⟨h2⟩
              have c2 := H2.out.rb.c2
              have m6 := H2.out.rb.m6
              clear h2
              go_wp2_with fail
              refine (take_yes 44 k hs (by omega) H2.out.rb h1).mono ?_; rintro e w2 ⟨rfl, hb3, hx3⟩
              have HJ : Put (JMb B M s P w0 R 1 m' w2) := ⟨.inr ⟨t2.adv, x2, N, _, [], [], [], H2.out.ex hb3 hx3 (Nat.le_succ _) rfl rfl, num_lt h1, by show s.size + 1 ≤ t2.at_ + 1 + m'; omega, by show t2.chd < 8; omega, hRr, ⟨HG.out.v1 HP.out hv hn3 h1⟩, .inl ⟨rfl, hn3, rfl, rfl, rfl⟩⟩⟩
              clear c2 m6 hb3 hx3 H2 HS HVP
              go_wp2
              go_step3
              show ∃ m'', m'' < m' + 1 ∧ JM B M s P w0 R 1 m'' _ _
              exact ⟨m', Nat.lt_succ_self _, ⟨rfl, rfl, rfl⟩, HJ.out⟩
            | none =>
              simp only [h1] at hRr
              go_wp2_with fail
              refine HVP.out.mono ?_; rintro e w1 ⟨rfl, x2, h2⟩
              have H2 : Put (St B M N s (vs ++ [vOf s t1.at_]) t2 x2 [] [] [] w0 w1) := ⟨h2⟩
              have c2 := H2.out.rb.c2
              have m6 := H2.out.rb.m6
              clear h2
              go_wp2_with fail
              refine (take_no 44 hs sv.2.2.2.1 (by omega) H2.out.rb h1).mono ?_; rintro e w2 ⟨rfl, hb3, hx3⟩
              have HJ : Put (JMb B M s P w0 R 2 m' w2) := ⟨.inr ⟨t2, x2, N, _, [], [], [], H2.out.ex hb3 hx3 (Nat.le_refl _) rfl rfl, sv.2.2.2.1, by omega, by omega, hRr, ⟨HG.out.v2 HP.out hv (fun _ => h1)⟩, .inr (.inl ⟨rfl, rfl, rfl⟩)⟩⟩
              clear c2 m6 hb3 hx3 H2 HS HVP
              go_wp2
              apply wp_label
              first | (rename_i hK; exact hK _ _ (ih 2 _ _ ⟨m', Nat.lt_succ_self _, ⟨rfl, rfl, rfl⟩, HJ.out⟩)) | (rename_i hK _; exact hK _ _ (ih 2 _ _ ⟨m', Nat.lt_succ_self _, ⟨rfl, rfl, rfl⟩, HJ.out⟩)) | (rename_i hK _ _; exact hK _ _ (ih 2 _ _ ⟨m', Nat.lt_succ_self _, ⟨rfl, rfl, rfl⟩, HJ.out⟩))
          · rw [if_neg hn3] at hRr
            have hn3' : ¬ (t2.n : Int) < 3 := by omega
            go_wp2_with fail
            refine HVP.out.mono ?_; rintro e w1 ⟨rfl, x2, h2⟩
            have H2 : Put (St B M N s (vs ++ [vOf s t1.at_]) t2 x2 [] [] [] w0 w1) := ⟨h2⟩
            have c2 := H2.out.rb.c2
            have m6 := H2.out.rb.m6
            have HJ : Put (JMb B M s P w0 R 2 m' w1) := ⟨.inr ⟨t2, x2, N, _, [], [], [], H2.out, sv.2.2.2.1, by omega, by omega, hRr, ⟨HG.out.v2 HP.out hv (fun h => absurd h hn3)⟩, .inr (.inl ⟨rfl, rfl, rfl⟩)⟩⟩
            clear h2 H2 HS HVP
            go_wp2
            apply wp_label
            first | (rename_i hK; exact hK _ _ (ih 2 _ _ ⟨m', Nat.lt_succ_self _, ⟨rfl, rfl, rfl⟩, HJ.out⟩)) | (rename_i hK _; exact hK _ _ (ih 2 _ _ ⟨m', Nat.lt_succ_self _, ⟨rfl, rfl, rfl⟩, HJ.out⟩)) | (rename_i hK _ _; exact hK _ _ (ih 2 _ _ ⟨m', Nat.lt_succ_self _, ⟨rfl, rfl, rfl⟩, HJ.out⟩))
    · show Code.wp Tryd.prog (.seq _ _) _ _ _
      obtain ⟨ao, cap, hvr⟩ : ∃ ao cap, x1.vr = .slice ao t1.nr cap := by obtain ⟨xs, h, _⟩ := HS.out.rw.r; rw [HS.out.nr]; exact owned_slice' h
      have hE := ratEnd hat HS.out.rb
      by_cases he : t1.at_ = s.size
      · rw [if_pos he] at hRr
        rw [decide_eq_true he] at hE
        go_wp2_with fail
        refine hE.mono ?_; rintro e w2 ⟨rfl, hb2, hx2⟩
        have FIN : Put (∃ t' x' N vs rl, St B M N s vs t' x' [] [] rl w0 w2 ∧ R = (t'.flt, t'.plc) ∧ P 2 t' vs [] [] rl ∧ t'.at_ = s.size) := ⟨t1, x1, N, vs, rl, HS.out.ex hb2 hx2 (Nat.le_refl _) rfl rfl, hRr, HP.out, he⟩
        clear hb2 hx2 hE HS hvr
        go_wp2
        rw [jumps_ret]
        go_ret
        exact ⟨true, rfl, FIN.out⟩
      · rw [if_neg he] at hRr
        rw [decide_eq_false he] at hE
        by_cases h8 : t1.nr = 8
        · rw [if_pos h8] at hRr
          rw [h8] at hvr
          go_wp2_with fail
          refine hE.mono ?_; rintro e w2 ⟨rfl, hb2, hx2⟩
          have c2 := hb2.c2
          have m7 := hb2.m7
          rw [hvr] at m7
          have HJ : Put (JMb B M s P w0 R 0 0 w2) := ⟨.inl ⟨rfl, rfl, t1, HS.out.fail hb2 hx2, hRr⟩⟩
          clear hb2 hx2 hE HS hvr
          go_wp2
          go_step3
          show ∃ m'', m'' < m' + 1 ∧ JM B M s P w0 R 0 m'' _ _
          exact ⟨0, Nat.succ_pos _, ⟨rfl, rfl, rfl⟩, HJ.out⟩
        · rw [if_neg h8] at hRr
          have h8' : ((t1.nr : Int) == 8) = false := by simp; omega
          have hnr8 : rl.length < 8 := by have := HS.out.l8; have := HS.out.nr; omega
          cases h1 : num? s t1.at_ 59 0 0 with
          | none =>
            simp only [h1] at hRr
            go_wp2_with fail
            refine hE.mono ?_; rintro e w2 ⟨rfl, hb2, hx2⟩
            have c2 := hb2.c2
            have m7 := hb2.m7
            rw [hvr] at m7
            go_wp2_with fail
            refine (take_no 59 hs hat (by omega) hb2 h1).mono ?_; rintro e w3 ⟨rfl, hb3, hx3⟩
            have HJ : Put (JMb B M s P w0 R 0 0 w3) := ⟨.inl ⟨rfl, rfl, t1, HS.out.fail hb3 (hx2.trans hx3), hRr⟩⟩
            clear hb2 hx2 hb3 hx3 hE HS hvr c2 m7
            go_wp2
            go_step3
            show ∃ m'', m'' < m' + 1 ∧ JM B M s P w0 R 0 m'' _ _
            exact ⟨0, Nat.succ_pos _, ⟨rfl, rfl, rfl⟩, HJ.out⟩
          | some k1 =>
            simp only [h1] at hRr
            have l1 : t1.adv.at_ ≤ s.size := num_lt h1
            have HN1 : Put (t1.adv.at_ = t1.at_ + 1) := ⟨rfl⟩
            cases h2 : num? s t1.adv.at_ 58 0 0 with
            | some k2 =>
              simp only [h2] at hRr
              go_wp2_with fail
              refine hE.mono ?_; rintro e w2 ⟨rfl, hb2, hx2⟩
              have c2 := hb2.c2
              have m7 := hb2.m7
              rw [hvr] at m7
              go_wp2_with fail
              refine (take_yes 59 k1 hs (by omega) hb2 h1).mono ?_; rintro e w3 ⟨rfl, hb3, hx3⟩
              go_wp2_with fail
              refine (take_yes 58 k2 hs (by omega) hb3 h2).mono ?_; rintro e w4 ⟨rfl, hb4, hx4⟩
              have HJ : Put (JMb B M s P w0 R 3 m' w4) := ⟨.inr ⟨t1.adv.adv, x1, N, vs, [], [], rl, HS.out.ex hb4 ((hx2.trans hx3).trans hx4) (by show t1.at_ ≤ t1.at_ + 1 + 1; omega) rfl rfl, num_lt h2, by show s.size + 1 ≤ t1.at_ + 1 + 1 + m'; omega, hcd, hRr, ⟨HG.out.r3 HP.out h1 h2⟩, .inr (.inr (.inl ⟨rfl, hnr8⟩))⟩⟩
              clear hb2 hx2 hb3 hx3 hb4 hx4 hE HS hvr c2 m7
              go_wp2
              go_step3
              show ∃ m'', m'' < m' + 1 ∧ JM B M s P w0 R 3 m'' _ _
              exact ⟨m', Nat.lt_succ_self _, ⟨rfl, rfl, rfl⟩, HJ.out⟩
            | none =>
              simp only [h2] at hRr
              go_wp2_with fail
              refine hE.mono ?_; rintro e w2 ⟨rfl, hb2, hx2⟩
              have c2 := hb2.c2
              have m7 := hb2.m7
              rw [hvr] at m7
              go_wp2_with fail
              refine (take_yes 59 k1 hs (by omega) hb2 h1).mono ?_; rintro e w3 ⟨rfl, hb3, hx3⟩
              go_wp2_with fail
              refine (take_no 58 hs l1 (by omega) hb3 h2).mono ?_; rintro e w4 ⟨rfl, hb4, hx4⟩
              have HJ : Put (JMb B M s P w0 R 4 m' w4) := ⟨.inr ⟨t1.adv, x1, N, vs, [], [], rl, HS.out.ex hb4 ((hx2.trans hx3).trans hx4) (by show t1.at_ ≤ t1.at_ + 1; omega) rfl rfl, l1, by show s.size + 1 ≤ t1.at_ + 1 + m'; omega, hcd, hRr, ⟨HG.out.r4 HP.out h1 h2⟩, .inr (.inr (.inr ⟨rfl, hnr8, rfl⟩))⟩⟩
              clear hb2 hx2 hb3 hx3 hb4 hx4 hE HS hvr c2 m7
              go_wp2
              apply wp_label
              first | (rename_i hK; exact hK _ _ (ih 4 _ _ ⟨m', Nat.lt_succ_self _, ⟨rfl, rfl, rfl⟩, HJ.out⟩)) | (rename_i hK _; exact hK _ _ (ih 4 _ _ ⟨m', Nat.lt_succ_self _, ⟨rfl, rfl, rfl⟩, HJ.out⟩)) | (rename_i hK _ _; exact hK _ _ (ih 4 _ _ ⟨m', Nat.lt_succ_self _, ⟨rfl, rfl, rfl⟩, HJ.out⟩))
    · show Code.wp Tryd.prog (.seq _ _) _ _ _
      cases hv : pChange s t1 with
      | mk b t2 =>
        have sv := pChange_same hv hat hcd
        have HVP : Put (_) := ⟨change_any hs hat hcd HS.out hv⟩
        cases b with
        | false =>
          simp only [hv] at hRr
          go_wp2_with fail
          refine HVP.out.mono ?_; rintro e w1 ⟨rfl, hF⟩
          have hF' : Fail B M s t2 w0 w1 := hF
          have HJ : Put (JMb B M s P w0 R 0 0 w1) := ⟨.inl ⟨rfl, rfl, t2, hF', hRr⟩⟩
          clear hF hF' HS HVP
          go_wp2
          go_step3
          show ∃ m'', m'' < m' + 1 ∧ JM B M s P w0 R 0 m'' _ _
          exact ⟨0, Nat.succ_pos _, ⟨rfl, rfl, rfl⟩, HJ.out⟩
        | true =>
          have s5 := sv.2.2.2.2.2 rfl
          simp only [hv] at hRr
          cases h1 : num? s t2.at_ 44 0 0 with
          | some k =>
            simp only [h1] at hRr
            go_wp2_with fail
            refine HVP.out.mono ?_; rintro e w1 ⟨rfl, x2, h2⟩
            have H2 : Put (St B M N s vs t2 x2 cl (dl ++ [chOf s t1.at_]) rl w0 w1) := ⟨h2⟩
            clear h2
            go_wp2_with fail
            refine (take_yes 44 k hs (by omega) H2.out.rb h1).mono ?_; rintro e w2 ⟨rfl, hb3, hx3⟩
            have HJ : Put (JMb B M s P w0 R 3 m' w2) := ⟨.inr ⟨t2.adv, x2, N, vs, cl, _, rl, H2.out.ex hb3 hx3 (Nat.le_succ _) rfl rfl, num_lt h1, by show s.size + 1 ≤ t2.at_ + 1 + m'; omega, sv.2.2.2.1, hRr, ⟨HG.out.d3 HP.out hv h1⟩, .inr (.inr (.inl ⟨rfl, hnr⟩))⟩⟩
            clear hb3 hx3 H2 HS HVP
            go_wp2
            go_step3
            show ∃ m'', m'' < m' + 1 ∧ JM B M s P w0 R 3 m'' _ _
            exact ⟨m', Nat.lt_succ_self _, ⟨rfl, rfl, rfl⟩, HJ.out⟩
          | none =>
            simp only [h1] at hRr
            go_wp2_with fail
            refine HVP.out.mono ?_; rintro e w1 ⟨rfl, x2, h2⟩
            have H2 : Put (St B M N s vs t2 x2 cl (dl ++ [chOf s t1.at_]) rl w0 w1) := ⟨h2⟩
            clear h2
            go_wp2_with fail
            refine (take_no 44 hs sv.2.2.2.2.1 (by omega) H2.out.rb h1).mono ?_; rintro e w2 ⟨rfl, hb3, hx3⟩
            have H3 : Put (_) := ⟨end_any hs sv.2.2.2.2.1 hnr (H2.out.ex hb3 hx3 (Nat.le_refl _) rfl rfl)⟩
            clear hb3 hx3 H2
            go_wp2_with fail
            refine H3.out.mono ?_; rintro e w3 ⟨rfl, x3, N3, h3⟩
            have HJ : Put (JMb B M s P w0 R 2 m' w3) := ⟨.inr ⟨{ t2 with nr := t2.nr + 1, chd := 0 }, x3, N3, vs, [], [], _, h3, sv.2.2.2.2.1, by show s.size + 1 ≤ t2.at_ + m'; omega, by show 0 < 8; omega, hRr, ⟨HG.out.d2 HP.out hv h1⟩, .inr (.inl ⟨rfl, rfl, rfl⟩)⟩⟩
            clear h3 H3 HS HVP
            go_wp2
            go_step3
            show ∃ m'', m'' < m' + 1 ∧ JM B M s P w0 R 2 m'' _ _
            exact ⟨m', Nat.lt_succ_self _, ⟨rfl, rfl, rfl⟩, HJ.out⟩
    · show Code.wp Tryd.prog (.seq _ _) _ _ _
      cases hv : pCond s t1 with
      | mk b t2 =>
        have sv := pCond_same hv hat
        have HVP : Put (_) := ⟨ruleCond_any hs hat HS.out hv⟩
        cases b with
        | false =>
          simp only [hv] at hRr
          go_wp2_with fail
          refine HVP.out.mono ?_; rintro e w1 ⟨rfl, hF⟩
          have hF' : Fail B M s t2 w0 w1 := hF
          have HJ : Put (JMb B M s P w0 R 0 0 w1) := ⟨.inl ⟨rfl, rfl, t2, hF', hRr⟩⟩
          clear hF hF' HS HVP
          go_wp2
          go_step3
          show ∃ m'', m'' < m' + 1 ∧ JM B M s P w0 R 0 m'' _ _
          exact ⟨0, Nat.succ_pos _, ⟨rfl, rfl, rfl⟩, HJ.out⟩
        | true =>
          have s5 := sv.2.2.2.2.2 rfl
          simp only [hv] at hRr
          cases h1 : num? s t2.at_ 38 0 0 with
          | some k =>
            simp only [h1] at hRr
            go_wp2_with fail
            refine HVP.out.mono ?_; rintro e w1 ⟨rfl, x2, h2⟩
            have H2 : Put (St B M N s vs t2 x2 (cl ++ [cdOf s t1.at_]) [] rl w0 w1) := ⟨h2⟩
            clear h2
            go_wp2_with fail
            refine (take_yes 38 k hs (by omega) H2.out.rb h1).mono ?_; rintro e w2 ⟨rfl, hb3, hx3⟩
            have HJ : Put (JMb B M s P w0 R 4 m' w2) := ⟨.inr ⟨t2.adv, x2, N, vs, _, [], rl, H2.out.ex hb3 hx3 (Nat.le_succ _) rfl rfl, num_lt h1, by show s.size + 1 ≤ t2.at_ + 1 + m'; omega, by show t2.chd < 8; omega, hRr, ⟨HG.out.c4 HP.out hv h1⟩, .inr (.inr (.inr ⟨rfl, hnr, rfl⟩))⟩⟩
            clear hb3 hx3 H2 HS HVP
            go_wp2
            go_step3
            show ∃ m'', m'' < m' + 1 ∧ JM B M s P w0 R 4 m'' _ _
            exact ⟨m', Nat.lt_succ_self _, ⟨rfl, rfl, rfl⟩, HJ.out⟩
          | none =>
            simp only [h1] at hRr
            cases h2 : num? s t2.at_ 58 0 0 with
            | none =>
              simp only [h2] at hRr
              go_wp2_with fail
              refine HVP.out.mono ?_; rintro e w1 ⟨rfl, x2, hh2⟩
              have H2 : Put (St B M N s vs t2 x2 (cl ++ [cdOf s t1.at_]) [] rl w0 w1) := ⟨hh2⟩
              clear hh2
              go_wp2_with fail
              refine (take_no 38 hs sv.2.2.2.2.1 (by omega) H2.out.rb h1).mono ?_; rintro e w2 ⟨rfl, hb3, hx3⟩
              go_wp2_with fail
              refine (take_no 58 hs sv.2.2.2.2.1 (by omega) hb3 h2).mono ?_; rintro e w3 ⟨rfl, hb4, hx4⟩
              have HJ : Put (JMb B M s P w0 R 0 0 w3) := ⟨.inl ⟨rfl, rfl, t2, H2.out.fail hb4 (hx3.trans hx4), hRr⟩⟩
              clear hb3 hx3 hb4 hx4 H2 HS HVP
              go_wp2
              go_step3
              show ∃ m'', m'' < m' + 1 ∧ JM B M s P w0 R 0 m'' _ _
              exact ⟨0, Nat.succ_pos _, ⟨rfl, rfl, rfl⟩, HJ.out⟩
            | some k2 =>
              simp only [h2] at hRr
              go_wp2_with fail
              refine HVP.out.mono ?_; rintro e w1 ⟨rfl, x2, hh2⟩
              have H2 : Put (St B M N s vs t2 x2 (cl ++ [cdOf s t1.at_]) [] rl w0 w1) := ⟨hh2⟩
              clear hh2
              go_wp2_with fail
              refine (take_no 38 hs sv.2.2.2.2.1 (by omega) H2.out.rb h1).mono ?_; rintro e w2 ⟨rfl, hb3, hx3⟩
              go_wp2_with fail
              refine (take_yes 58 k2 hs (by omega) hb3 h2).mono ?_; rintro e w3 ⟨rfl, hb4, hx4⟩
              have HJ : Put (JMb B M s P w0 R 3 m' w3) := ⟨.inr ⟨t2.adv, x2, N, vs, _, [], rl, H2.out.ex hb4 (hx3.trans hx4) (Nat.le_succ _) rfl rfl, num_lt h2, by show s.size + 1 ≤ t2.at_ + 1 + m'; omega, by show t2.chd < 8; omega, hRr, ⟨HG.out.c3 HP.out hv h1 h2⟩, .inr (.inr (.inl ⟨rfl, hnr⟩))⟩⟩
              clear hb3 hx3 hb4 hx4 H2 HS HVP
              go_wp2
              apply wp_label
              first | (rename_i hK; exact hK _ _ (ih 3 _ _ ⟨m', Nat.lt_succ_self _, ⟨rfl, rfl, rfl⟩, HJ.out⟩)) | (rename_i hK _; exact hK _ _ (ih 3 _ _ ⟨m', Nat.lt_succ_self _, ⟨rfl, rfl, rfl⟩, HJ.out⟩)) | (rename_i hK _ _; exact hK _ _ (ih 3 _ _ ⟨m', Nat.lt_succ_self _, ⟨rfl, rfl, rfl⟩, HJ.out⟩))
end
end Go.Proofs.YtgoebckimmofoaaDoor

/- The code: readModel and Check. Our own text. -/
namespace Go.Proofs.YtgoebckimmofoaaDoor
open Go.RowKit Go.Lib

def T0 : T := ⟨0, 0, 0, 0, 0, 0⟩
def X0 : Junk := ⟨0, 0, 0, 0, 0, 0, .slice none 0 0, .slice none 0 0, .slice none 0 0⟩
def pCheck (s : ByteArray) : Nat × Nat := if 120 < s.size then (1, 0) else pRun s (s.size + 1) 1 T0

theorem St.zero (s : ByteArray) (w : World) : St (w.heap.size + 1) w.heap.size (w.heap.size + 2) s [] T0 X0 [] [] [] w ((w.alloc (.cells (mblk T0 X0) 74)).alloc (.cells (rblk s w.heap.size T0 [.slice none 0 0, .slice none 0 0, .int .u8 0]) 81)) := by
  have hm := (Below.heap_alloc (w.alloc (.cells (mblk T0 X0) 74)) (.cells (rblk s w.heap.size T0 [.slice none 0 0, .slice none 0 0, .int .u8 0]) 81) w.heap.size (by simp)).trans (heap_alloc_new w (.cells (mblk T0 X0) 74))
  have hr := heap_alloc_new (w.alloc (.cells (mblk T0 X0) 74)) (.cells (rblk s w.heap.size T0 [.slice none 0 0, .slice none 0 0, .int .u8 0]) 81)
  rw [World.size_alloc] at hr
  refine ⟨rfl, by simp, by omega, by simp, Nat.le_refl _, Nat.le_refl _, fun d hd => (by cases hd), ⟨⟨hr, ⟨_, _, hm, rfl⟩, by omega⟩, hm⟩, ⟨⟨[], World.ownsRow_nil _ _ _ _, All2.nil⟩, ⟨[], World.ownsRow_nil _ _ _ _, All2.nil⟩, ⟨[], World.ownsRow_nil _ _ _ _, All2.nil⟩⟩, ((Below.refl _ _).alloc (Nat.le_refl _) _).alloc (by simp) _, ⟨fun k hk => absurd hk (Nat.not_lt_zero _), fun k _ h3 => ?_, fun e he => (by cases he)⟩, rfl⟩
  have : k = 0 ∨ k = 1 ∨ k = 2 := by omega
  rcases this with rfl | rfl | rfl <;> exact ⟨rfl, rfl⟩

/-- How readModel ends. -/
def RMPost (s : ByteArray) (P : Nat → T → List V2 → List (Tm × Tm) → List Chg → List RA → Prop) (w : World) (e : Ending) (w' : World) : Prop :=
  Below w.heap.size w w' ∧
  (((pCheck s).1 ≠ 0 ∧ ∃ ao, e = .returned (.tuple #[.pointer ao, .int .i64 (pCheck s).1, .int .i64 (pCheck s).2])) ∨
   ((pCheck s).1 = 0 ∧ ∃ (B M N : Nat) (t : T) (x : Junk) (vs : List V2) (rl : List RA), e = .returned (.tuple #[.pointer (some ⟨M, 0, none⟩), .int .i64 0, .int .i64 (pCheck s).2]) ∧ St B M N s vs t x [] [] rl w w' ∧ P 2 t vs [] [] rl ∧ t.at_ = s.size ∧ w.heap.size ≤ M))

set_option maxRecDepth 100000 in
set_option maxHeartbeats 1600000 in
theorem readModel_any {P : Nat → T → List V2 → List (Tm × Tm) → List Chg → List RA → Prop} (s : ByteArray) (hG : s.size ≤ 120 → Ghost s P) (hP : s.size ≤ 120 → P 1 T0 [] [] [] []) (w : World) (hsz : s.size ≤ maxLen) :
    Calls Tryd.prog 17 #[.string s] w (RMPost s P w) := by
  unfold maxLen at hsz
  by_cases hl : 120 < s.size
  · have hc : pCheck s = (1, 0) := by unfold pCheck; rw [if_pos hl]
    have HC : Put (_ = _) := ⟨hc⟩
    have hl' : (120 : Int) < (s.size : Int) := by omega
    clear hG hP hc
    go_enter Tryd.func17, Tryd.ntmps17
    go_wp2
    refine bodyPost_ret (v := .tuple #[.pointer none, .int .i64 1, .int .i64 0]) (by simp [results, Tryd.results17, go_sem]) rfl ?_
    exact ⟨Below.refl _ _, .inl ⟨by rw [HC.out]; decide, none, by rw [HC.out]; rfl⟩⟩
  · have hc : pCheck s = pRun s (s.size + 1) 1 T0 := by unfold pCheck; rw [if_neg hl]
    have hl' : ¬ (120 : Int) < (s.size : Int) := by omega
    obtain ⟨R, hR⟩ : ∃ R, R = pCheck s := ⟨_, rfl⟩
    have hRun : R = pRun s (s.size + 1) 1 T0 := by rw [hR, hc]
    have HC : Put (_ = _) := ⟨hR⟩
    have HM : Put (_) := ⟨model_any (by omega) (hG (by omega)) (Nat.zero_le _) (by show 0 < 3; omega) (by show 0 < 8; omega) (St.zero s w) (hP (by omega)) hRun⟩
    clear hG hP hc hR hRun
    go_enter Tryd.func17, Tryd.ntmps17
    go_wp2_with fail
    refine HM.out.mono ?_
    rintro e w1 ⟨b, rfl, hD⟩
    clear HM
    cases b with
    | false =>
      obtain ⟨t', ⟨x', hb, hbl⟩, hr⟩ : ∃ t', Fail (w.heap.size + 1) w.heap.size s t' w w1 ∧ R = (2, t'.at_) := hD
      have HR : Put (pCheck s = (2, t'.at_)) := ⟨HC.out.symm.trans hr⟩
      have c1 := hb.c1
      have HB : Put (_) := ⟨hbl⟩
      clear hb hbl hr
      go_wp2
      go_quiet (fail)
      go_wp2
      refine bodyPost_ret (v := .tuple #[.pointer none, .int .i64 2, .int .i64 t'.at_]) (by simp [results, Tryd.results17, go_sem]) rfl ?_
      exact ⟨below_drewN HB.out _, .inl ⟨by rw [HR.out]; show (2 : Nat) ≠ 0; decide, none, by rw [HR.out]; rfl⟩⟩
    | true =>
      obtain ⟨t', x', N, vs, rl, hS, hr, hP, he⟩ : ∃ t' x' N vs rl, St (w.heap.size + 1) w.heap.size N s vs t' x' [] [] rl w w1 ∧ R = (t'.flt, t'.plc) ∧ P 2 t' vs [] [] rl ∧ t'.at_ = s.size := hD
      have HR : Put (pCheck s = (t'.flt, t'.plc)) := ⟨HC.out.symm.trans hr⟩
      have c2 := hS.rb.c2
      have c3 := hS.rb.c3
      have c4 := hS.rb.c4
      have HS : Put (_ ∧ _ ∧ _) := ⟨hS, hP, he⟩
      clear hS hP he hr
      go_wp2
      go_quiet (fail)
      go_wp2
      refine bodyPost_ret (v := .tuple #[.pointer (some ⟨w.heap.size, 0, none⟩), .int .i64 t'.flt, .int .i64 t'.plc]) (by simp [results, Tryd.results17, go_sem]) rfl ?_
      refine ⟨below_drewN HS.out.1.lo _, ?_⟩
      by_cases hz : t'.flt = 0
      · refine .inr ⟨by rw [HR.out]; exact hz, w.heap.size + 1, w.heap.size, N, t', x', vs, rl, ?_, HS.out.1.drewN _, HS.out.2.1, HS.out.2.2, Nat.le_refl _⟩
        rw [HR.out, hz]; rfl
      · exact .inl ⟨by rw [HR.out]; exact hz, _, by rw [HR.out]⟩

theorem readModel_bad (s : ByteArray) (w : World) (hsz : s.size ≤ maxLen) : Calls Tryd.prog 17 #[.string s] w (RMPost s (fun _ _ _ _ _ _ => True) w) :=
  readModel_any s (fun _ => Ghost.any s) (fun _ => trivial) w hsz
set_option maxRecDepth 100000 in
set_option maxHeartbeats 800000 in
theorem check_any (s : ByteArray) (w : World) (hsz : s.size ≤ maxLen) :
    Calls Tryd.prog 6 #[.string s] w fun e w' => e = .returned (.tuple #[.int .i64 (pCheck s).1, .int .i64 (pCheck s).2]) ∧ Below w.heap.size w w' := by
  go_enter Tryd.func6, Tryd.ntmps6
  go_wp2_with fail
  refine (readModel_bad s w hsz).mono ?_
  rintro e w1 ⟨hb1, (⟨_, ao, rfl⟩ | ⟨h0, _, M, _, _, _, _, _, rfl, _⟩)⟩
  · go_wp2
    go_ret2
    exact ⟨rfl, hb1⟩
  · go_wp2
    go_ret2
    refine ⟨?_, hb1⟩
    rw [h0]; rfl
end Go.Proofs.YtgoebckimmofoaaDoor
