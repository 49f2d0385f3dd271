/-
  What package letters answers: great, worth, Write, Read.
-/
import Derived.Test.YtdplffhieekfaaaDoorAlpha
import Derived.Test.YtdplffhieekfaaaDoorNums
import Derived.Test.YtdplffhieekfaaaDoorShelf
namespace Go.Proofs.YtdplffhieekfaaaDoor
open Go.RowKit

set_option maxHeartbeats 400000 in
theorem great_any (c : Int) (w : World) (h0 : 0 ≤ c) (h1 : c < 256) :
    Calls Tryd.prog 66 #[.int .u8 c] w fun e w' => e = .returned (.int .u8 (greatOf c.toNat)) ∧ w' = w := by
  by_cases h : 97 ≤ c
  · by_cases h2 : c ≤ 122
    · have e1 : ((greatOf c.toNat : Nat) : Int) = c - 97 + 65 := by unfold greatOf; rw [if_pos (by omega)]; omega
      rw [e1]
      go_enter Tryd.func66, Tryd.ntmps66
      go_wp2
      go_ret
      exact ⟨rfl, rfl⟩
    · have e1 : ((greatOf c.toNat : Nat) : Int) = c := by unfold greatOf; rw [if_neg (by omega)]; omega
      rw [e1]
      go_enter Tryd.func66, Tryd.ntmps66
      go_wp2
      go_ret
      exact ⟨rfl, rfl⟩
  · have e1 : ((greatOf c.toNat : Nat) : Int) = c := by unfold greatOf; rw [if_neg (by omega)]; omega
    rw [e1]
    go_enter Tryd.func66, Tryd.ntmps66
    go_wp2
    go_ret
    exact ⟨rfl, rfl⟩

set_option maxHeartbeats 400000 in
theorem worth_any (c : Int) (w : World) (h0 : 0 ≤ c) (h1 : c < 256) :
    Calls Tryd.prog 35 #[.int .u8 c] w fun e w' => e = .returned (.int .i64 (worthOf c.toNat)) ∧ w' = w := by
  have hg := fun w => great_any c w h0 h1
  obtain ⟨g, hgg⟩ : ∃ g : Nat, g = greatOf c.toNat := ⟨_, rfl⟩
  have hw : worthOf c.toNat = if g = 73 ∨ g = 76 then 1 else if g = 79 then 0 else if 0 ≤ placeOf g then (placeOf g).toNat else 32 := by rw [hgg]; rfl
  have g256 : g < 256 := by rw [hgg]; unfold greatOf; split <;> omega
  rw [← hgg] at hg
  clear hgg
  have hx : ∀ w, Calls Tryd.prog 67 #[.string ⟨#[48, 49, 50, 51, 52, 53, 54, 55, 56, 57, 65, 66, 67, 68, 69, 70, 71, 72, 74, 75, 77, 78, 80, 81, 82, 83, 84, 86, 87, 88, 89, 90]⟩, .int .u8 g] w fun e w' => e = .returned (.int .i64 (placeOf g)) ∧ w' = w := fun w => by
    have := Tryd.strings_IndexByte ⟨#[48, 49, 50, 51, 52, 53, 54, 55, 56, 57, 65, 66, 67, 68, 69, 70, 71, 72, 74, 75, 77, 78, 80, 81, 82, 83, 84, 86, 87, 88, 89, 90]⟩ (g : Int) w
    exact this
  by_cases h73 : g = 73
  · subst h73
    rw [hw, if_pos (.inl rfl)]
    go_enter Tryd.func35, Tryd.ntmps35
    go_wp2_with (go_at_call 66; refine (hg _).mono ?_; rintro e w' ⟨rfl, rfl⟩)
    go_ret
    exact ⟨rfl, rfl⟩
  · by_cases h76 : g = 76
    · subst h76
      rw [hw, if_pos (.inr rfl)]
      go_enter Tryd.func35, Tryd.ntmps35
      go_wp2_with (go_at_call 66; refine (hg _).mono ?_; rintro e w' ⟨rfl, rfl⟩)
      go_ret
      exact ⟨rfl, rfl⟩
    · rw [hw, if_neg (by omega)]
      by_cases h79 : g = 79
      · subst h79
        rw [if_pos rfl]
        go_enter Tryd.func35, Tryd.ntmps35
        go_wp2_with (go_at_call 66; refine (hg _).mono ?_; rintro e w' ⟨rfl, rfl⟩)
        go_ret
        exact ⟨rfl, rfl⟩
      · rw [if_neg h79]
        have b1 : ((g : Int) == 73) = false := by simp; omega
        have b2 : ((g : Int) == 76) = false := by simp; omega
        have b3 : ((g : Int) == 79) = false := by simp; omega
        generalize placeOf g = p at *
        by_cases hp : 0 ≤ p
        · rw [if_pos hp, Int.toNat_of_nonneg hp]
          go_enter Tryd.func35, Tryd.ntmps35
          go_wp2_with (first | (go_at_call 66; refine (hg _).mono ?_; rintro e w' ⟨rfl, rfl⟩) | (go_at_call 67; refine (hx _).mono ?_; rintro e w' ⟨rfl, rfl⟩))
          go_ret
          exact ⟨rfl, rfl⟩
        · rw [if_neg hp]
          go_enter Tryd.func35, Tryd.ntmps35
          go_wp2_with (first | (go_at_call 66; refine (hg _).mono ?_; rintro e w' ⟨rfl, rfl⟩) | (go_at_call 67; refine (hx _).mono ?_; rintro e w' ⟨rfl, rfl⟩))
          go_ret
          exact ⟨rfl, rfl⟩

set_option maxHeartbeats 400000 in
theorem read_len (s : ByteArray) (w : World) (h : s.size ≠ 13) :
    Calls Tryd.prog 22 #[.string s] w fun e w' => e = .returned (.tuple #[.int .u64 0, .int .i64 2]) ∧ w' = w := by
  have hb : ((s.size : Int) != 13) = true := by simp; omega
  go_enter Tryd.func22, Tryd.ntmps22
  go_wp2
  go_ret2
  exact ⟨rfl, rfl⟩

/-- What the letters of a text are worth. -/
def worths (s : ByteArray) : List Nat := s.data.toList.map fun b => worthOf b.toNat

/-- What a text is read as: the number and the error. -/
def readNum (s : ByteArray) : Nat := if s.size = 13 ∧ (∀ d ∈ worths s, d < 32) ∧ worthOf (s.data.toList.getD 0 0).toNat < 8 then valOf (worths s) else 0
def readErr (s : ByteArray) : Int := if s.size = 13 ∧ (∀ d ∈ worths s, d < 32) then (if worthOf (s.data.toList.getD 0 0).toNat < 8 then 0 else 1) else 2

theorem or_step (x y : Nat) (hy : y < 32) : bits .or .u64 (IntKind.u64.wrap (((x % 18446744073709551616 : Nat) : Int) * 32)) (IntKind.u64.wrap (y : Int)) = (((x * 32 + y) % 18446744073709551616 : Nat) : Int) := by
  rw [IntKind.wrap_u64, IntKind.wrap_u64]
  have e1 : (((x % 18446744073709551616 : Nat) : Int) * 32) % 18446744073709551616 = ((32 * (x % 576460752303423488) : Nat) : Int) := by omega
  have e2 : (y : Int) % 18446744073709551616 = (y : Int) := by omega
  rw [e1, e2, u64_or_nat _ _ (by omega) (by omega)]
  have e3 := Nat.two_pow_add_eq_or_of_lt (i := 5) (b := y) (by omega) (x % 576460752303423488)
  rw [show (2 : Nat) ^ 5 = 32 from rfl] at e3
  rw [← e3]
  omega

theorem worths_take (s : ByteArray) (k : Nat) (h : k < s.size) : (worths s).take (k + 1) = (worths s).take k ++ [worthOf s[k].toNat] := by
  have hl : k < (worths s).length := by simpa [worths] using h
  rw [List.take_succ_eq_append_getElem hl]
  congr 1
  simp only [worths, List.getElem_map]
  rfl

theorem worths_mem (s : ByteArray) (k : Nat) (h : k < s.size) : worthOf s[k].toNat ∈ worths s := by
  have hl : k < (worths s).length := by simpa [worths] using h
  have : (worths s)[k] = worthOf s[k].toNat := by simp only [worths, List.getElem_map]; rfl
  rw [← this]
  exact List.getElem_mem _

theorem worths_length (s : ByteArray) : (worths s).length = s.size := by simp [worths]

theorem first_byte (s : ByteArray) (h : 0 < s.size) : s.data.toList.getD 0 0 = s[0] := by
  rw [List.getD_eq_getElem?_getD, List.getElem?_eq_getElem (by simpa using h)]
  rfl

theorem worths_small (s : ByteArray) (h : s.size = 13) (hd : ∀ d ∈ worths s, d < 32) (h8 : worthOf (s.data.toList.getD 0 0).toNat < 8) : valOf (worths s) < 9223372036854775808 := by
  cases hl : s.data.toList with
  | nil => have : s.data.toList.length = 13 := by simpa using h
           rw [hl] at this; cases this
  | cons b l =>
    have hlen : l.length = 12 := by
      have : s.data.toList.length = 13 := by simpa using h
      rw [hl] at this; simpa using this
    rw [hl] at h8
    have e1 : worths s = worthOf b.toNat :: l.map (fun b => worthOf b.toNat) := by unfold worths; rw [hl]; rfl
    rw [e1] at hd ⊢
    have h1 := valOf_cons_lt (worthOf b.toNat) (l.map fun b => worthOf b.toNat) (fun x hx => hd x (by simp [hx]))
    rw [List.length_map, hlen, show (32 : Nat) ^ 12 = 1152921504606846976 from rfl] at h1
    have h2 : worthOf b.toNat < 8 := h8
    omega

theorem read_bad (s : ByteArray) (k : Nat) (h : k < s.size) (hw : worthOf s[k].toNat = 32) : readNum s = 0 ∧ readErr s = 2 := by
  have hn : ¬ (∀ d ∈ worths s, d < 32) := fun hh => by have := hh _ (worths_mem s k h); omega
  unfold readNum readErr
  rw [if_neg (fun h => hn h.2.1), if_neg (fun h => hn h.2)]
  exact ⟨rfl, rfl⟩

set_option maxHeartbeats 1000000 in
theorem read_any (s : ByteArray) (w : World) (h : s.size = 13) :
    Calls Tryd.prog 22 #[.string s] w fun e w' => e = .returned (.tuple #[.int .u64 (readNum s), .int .i64 (readErr s)]) ∧ w' = w := by
  have hb : ((s.size : Int) != 13) = false := by simp; omega
  go_enter Tryd.func22, Tryd.ntmps22
  go_wp2
  go_loop [4, 10] (fun n i => ∃ k : Nat, k ≤ 13 ∧ i = .int .i64 k ∧ n = .int .u64 ((valOf ((worths s).take k) % 18446744073709551616 : Nat) : Int) ∧ Hid (∀ d ∈ (worths s).take k, d < 32)) (fun _ i => 13 - (intOf i).toNat)
  case atStart => exact ⟨0, by omega, rfl, rfl, fun d hd => by simp at hd⟩
  case round =>
    obtain ⟨k, hk, rfl, rfl, hd⟩ := hrel
    by_cases hlt : k < 13
    · have hks : k < s.size := by omega
      have hw := fun w => worth_any (s[k].toNat : Int) w (by omega) (by have := s[k].toNat_lt; omega)
      have hle := worthOf_le s[k].toNat s[k].toNat_lt
      rw [Int.toNat_natCast] at hw
      have hts : Hid _ := worths_take s k hks
      by_cases h32 : worthOf s[k].toNat = 32
      · have hbad : Hid _ := read_bad s k hks h32
        have hwb : ((worthOf s[k].toNat : Int) == 32) = true := by simp; omega
        clear h32
        go_wp2_with (go_at_call 35; refine (hw _).mono ?_; rintro e w' ⟨rfl, rfl⟩)
        go_ret2
        rw [hbad.out.1, hbad.out.2]
        exact ⟨rfl, rfl⟩
      · have hwb : ((worthOf s[k].toNat : Int) == 32) = false := by simp; omega
        have hor : Hid _ := or_step (valOf ((worths s).take k)) (worthOf s[k].toNat) (by omega)
        have hlt32 : Hid (worthOf s[k].toNat < 32) := by show _ < _; omega
        generalize hwk : worthOf s[k].toNat = wk at *
        clear h32 hle
        go_wp2_with (go_at_call 35; refine (hw _).mono ?_; rintro e w' ⟨rfl, rfl⟩)
        refine ⟨⟨k + 1, by omega, by go_num, ?_, ?_⟩, by simp [intOf]; omega⟩
        · rw [hts.out, valOf_snoc]
          exact congrArg _ hor.out
        · rw [hts.out]
          intro d hdm
          rw [List.mem_append] at hdm
          rcases hdm with hdm | hdm
          · exact hd.out d hdm
          · rw [List.mem_singleton] at hdm; rw [hdm]; exact hlt32.out
    · have hk13 : k = 13 := by omega
      have hall : (worths s).take k = worths s := List.take_of_length_le (by rw [worths_length]; omega)
      rw [hall] at hd
      rw [hall]
      have hks : 0 < s.size := by omega
      have hw := fun w => worth_any (s[0].toNat : Int) w (by omega) (by have := s[0].toNat_lt; omega)
      rw [Int.toNat_natCast] at hw
      have hf := first_byte s hks
      by_cases h8 : worthOf s[0].toNat < 8
      · have hfin : Hid (readNum s = valOf (worths s) % 18446744073709551616 ∧ readErr s = 0) := by
          unfold readNum readErr
          rw [hf, if_pos ⟨h, hd.out, h8⟩, if_pos ⟨h, hd.out⟩, if_pos h8]
          refine ⟨?_, rfl⟩
          have := worths_small s h hd.out (by rw [hf]; exact h8)
          omega
        clear hf hall
        go_wp2_with (go_at_call 35; refine (hw _).mono ?_; rintro e w' ⟨rfl, rfl⟩)
        go_ret2
        rw [hfin.out.1, hfin.out.2]
        exact ⟨rfl, rfl⟩
      · have hfin : Hid (readNum s = 0 ∧ readErr s = 1) := by
          unfold readNum readErr
          rw [hf, if_neg (fun hh => h8 hh.2.2), if_pos ⟨h, hd.out⟩, if_neg h8]
          exact ⟨rfl, rfl⟩
        clear hf hall
        go_wp2_with (go_at_call 35; refine (hw _).mono ?_; rintro e w' ⟨rfl, rfl⟩)
        go_ret2
        rw [hfin.out.1, hfin.out.2]
        exact ⟨rfl, rfl⟩
end Go.Proofs.YtdplffhieekfaaaDoor
