/- A condition, read; one of a sign's bytes. Our own text. -/
import Derived.Test.YtkbmolodljenjaaDoorKCmp
import Derived.Lib.IndexLaws
namespace Go.Proofs.YtkbmolodljenjaaDoor
open Go.RowKit Go.Lib

set_option maxRecDepth 100000 in
theorem IndexByte2_any (s : ByteArray) (c : Int) (w : World) : Calls Tryd.prog 103 #[.string s, .int .u8 c] w fun e w' => e = .returned (.int .i64 (indexByte s.data.toList c.toNat.toUInt8)) ∧ w' = w := by
  go_enter Tryd.func103, Tryd.ntmps103
  go_wp2
  rw [run_callFunc_extern Tryd.func107 (by kernel_rfl) (by kernel_rfl) (by kernel_rfl) (e := Extern.BytealgIndexByte.indexByte) (by kernel_rfl), Lib.run_indexByteString]
  simp only [Result.andThen]
  rw [Oper.upon_value]
  go_wp2
  go_ret
  exact ⟨rfl, rfl⟩
theorem IndexByte_any (s : ByteArray) (c : Int) (w : World) : Calls Tryd.prog 99 #[.string s, .int .u8 c] w fun e w' => e = .returned (.int .i64 (indexByte s.data.toList c.toNat.toUInt8)) ∧ w' = w := by
  go_enter Tryd.func99, Tryd.ntmps99
  go_wp2_with fail
  refine (IndexByte2_any s c w).mono ?_
  rintro e w' ⟨rfl, rfl⟩
  go_wp2
  go_ret
  exact ⟨rfl, rfl⟩

/-- The byte at a place is one of these. -/
def oneOf? (s : ByteArray) (p : Nat) (l : List UInt8) : Option Nat := if h : p < s.size then (if s[p] ∈ l then some s[p].toNat else none) else none
theorem indexByte_mem {l : List UInt8} {c : UInt8} : indexByte l c < 0 ↔ c ∉ l := by
  constructor
  · intro h hc
    have h1 : indexByte l c = -1 := by have := indexByte_ge l c; omega
    obtain ⟨i, hi⟩ := List.getElem?_of_mem hc
    exact indexByte_none h1 i hi
  · intro h
    have := indexByte_ge l c
    by_cases h1 : indexByte l c = -1
    · omega
    · exfalso
      obtain ⟨o, ho⟩ : ∃ o : Nat, indexByte l c = o := ⟨(indexByte l c).toNat, by omega⟩
      exact h (List.mem_of_getElem? (indexByte_some ho).1)

section
variable {B M : Nat} {ty : TypeId} {rest : List Value} {s : ByteArray} {t : T} {w : World}
set_option maxRecDepth 100000 in
set_option maxHeartbeats 1600000 in
theorem oneOf_no (l : ByteArray) (hat : t.at_ ≤ s.size) (hb : RG B M ty rest s t w) (hn : oneOf? s t.at_ l.data.toList = none) :
    Calls Tryd.prog 90 #[.pointer (some ⟨B, 0, none⟩), .string l] w fun e w' => e = .returned (.tuple #[.int .u8 0, .bool false]) ∧ RG B M ty rest s t w' ∧ Ex B w w' := by
  have HE : Put (∀ n, Calls Tryd.prog 59 #[.pointer (some ⟨B, 0, none⟩)] (w.drewN n) fun e w' => e = .returned (.bool (decide (t.at_ = s.size))) ∧ ∃ m, w' = (w.drewN n).drewN m) := ⟨fun n => atEnd_q hat (hb.drewN n)⟩
  have d0 := hb.c0
  have d1 := hb.c1
  have HB : Put (RG B M ty rest s t w) := ⟨hb⟩
  by_cases h : t.at_ = s.size
  · rw [decide_eq_true h] at HE
    clear hn hb hat
    rw [h] at d1
    go_enter Tryd.func90, Tryd.ntmps90
    go_wp2
    go_quiet ((go_at_call 59; exact Calls.quiet_of (HE.out _)))
    go_wp2
    go_ret2
    exact ⟨rfl, HB.out.drewN _, (Ex.refl _ _).drewN _⟩
  · rw [decide_eq_false h] at HE
    have hlt : t.at_ < s.size := by omega
    have i1 : (t.at_ : Int) < (s.size : Int) := by omega
    have i0 : (0 : Int) ≤ (t.at_ : Int) := by omega
    have hm : s[t.at_] ∉ l.data.toList := by
      unfold oneOf? at hn
      rw [dif_pos hlt] at hn
      split at hn
      · cases hn
      · assumption
    have hi := indexByte_mem.2 hm
    have HI : Put (∀ w, Calls Tryd.prog 99 #[.string l, .int .u8 (s[t.at_].toNat : Nat)] w fun e w' => e = .returned (.int .i64 (indexByte l.data.toList s[t.at_])) ∧ w' = w) := ⟨fun w => by
      have := IndexByte_any l ((s[t.at_].toNat : Nat) : Int) w
      simpa using this⟩
    generalize indexByte l.data.toList s[t.at_] = ix at *
    clear hn hm hat hb
    generalize t.at_ = p at *
    go_enter Tryd.func90, Tryd.ntmps90
    go_wp2
    go_quiet (first | (go_at_call 59; exact Calls.quiet_of (HE.out _)) | (go_at_call 99; exact Calls.quiet_of_same (HI.out _)))
    go_wp2
    go_ret2
    exact ⟨rfl, HB.out.drewN _, (Ex.refl _ _).drewN _⟩
set_option maxRecDepth 100000 in
set_option maxHeartbeats 1600000 in
theorem oneOf_yes (l : ByteArray) (k : Nat) (hs : s.size ≤ 120) (hb : RG B M ty rest s t w) (hn : oneOf? s t.at_ l.data.toList = some k) :
    Calls Tryd.prog 90 #[.pointer (some ⟨B, 0, none⟩), .string l] w fun e w' => e = .returned (.tuple #[.int .u8 k, .bool true]) ∧ RG B M ty rest s t.adv w' ∧ Ex B w w' := by
  have hlt : t.at_ < s.size := by
    unfold oneOf? at hn
    split at hn
    · assumption
    · cases hn
  have hm : s[t.at_] ∈ l.data.toList ∧ s[t.at_].toNat = k := by
    unfold oneOf? at hn
    rw [dif_pos hlt] at hn
    split at hn
    · next h => simp at hn; exact ⟨h, hn⟩
    · cases hn
  have HE : Put (∀ n, Calls Tryd.prog 59 #[.pointer (some ⟨B, 0, none⟩)] (w.drewN n) fun e w' => e = .returned (.bool (decide (t.at_ = s.size))) ∧ ∃ m, w' = (w.drewN n).drewN m) := ⟨fun n => atEnd_q (by omega) (hb.drewN n)⟩
  rw [decide_eq_false (by omega)] at HE
  have d0 := hb.c0
  have d1 := hb.c1
  have f1 := hb.free 1
  have HB : Put (RG B M ty rest s t.adv (w.setCell ⟨B, 1, none⟩ (.int .i64 ((t.at_ + 1 : Nat) : Int)))) := ⟨hb.set1 (t.at_ + 1)⟩
  have i1 : (t.at_ : Int) < (s.size : Int) := by omega
  have i0 : (0 : Int) ≤ (t.at_ : Int) := by omega
  have hi : ¬ indexByte l.data.toList s[t.at_] < 0 := fun h => indexByte_mem.1 h hm.1
  have HI : Put (∀ w, Calls Tryd.prog 99 #[.string l, .int .u8 (s[t.at_].toNat : Nat)] w fun e w' => e = .returned (.int .i64 (indexByte l.data.toList s[t.at_])) ∧ w' = w) := ⟨fun w => by
    have := IndexByte_any l ((s[t.at_].toNat : Nat) : Int) w
    simpa using this⟩
  generalize indexByte l.data.toList s[t.at_] = ix at *
  have HK : Put (s[t.at_].toNat = k) := ⟨hm.2⟩
  clear hn hm hb
  generalize t.at_ = p at *
  have j1 : (p : Int) + 1 - 1 = (p : Int) := by omega
  go_enter Tryd.func90, Tryd.ntmps90
  go_wp2
  go_quiet (first | (go_at_call 59; exact Calls.quiet_of (HE.out _)) | (go_at_call 99; exact Calls.quiet_of_same (HI.out _)))
  go_wp2
  go_quiet (fail)
  go_wp2
  go_ret2
  refine ⟨?_, ?_, ?_⟩
  · rw [← HK.out]; rfl
  · exact HB.out.move rfl rfl
  · exact ((((Ex.refl B w).drewN _).setCell (.inl rfl) _).drewN _)
end
end Go.Proofs.YtkbmolodljenjaaDoor
