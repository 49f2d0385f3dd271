/-
  The document's answer: ParseShort.
  Conditions: none.
-/
import Derived.Test.YtdplffhieekfaaaDoorRefNum
namespace Go.Proofs.YtdplffhieekfaaaDoor
open Go.RowKit

theorem rworth_lt (c : Nat) (h : c < 256) : (rworthOf c < 0 ↔ worthOf c = 32) ∧ (worthOf c < 32 → rworthOf c = worthOf c) := by
  have hle := worthOf_le c h
  unfold rworthOf
  split
  · exact ⟨⟨fun hh => by omega, fun hh => by omega⟩, fun _ => rfl⟩
  · exact ⟨⟨fun _ => by omega, fun _ => by omega⟩, fun hh => absurd hh (by assumption)⟩

set_option maxHeartbeats 1000000 in
theorem rparseShort_len (s : ByteArray) (w : World) (h : s.size ≠ 13) :
    Calls Tryd.prog 42 #[.string s] w fun e w' => e = .returned (.tuple #[.int .u64 0, .int .i64 2]) ∧ w' = w := by
  have hb : ((s.size : Int) != 13) = true := by simp; omega
  go_enter Tryd.func42, Tryd.ntmps42
  go_wp2
  go_ret2
  exact ⟨rfl, rfl⟩

theorem mul_step (x y : Nat) : IntKind.u64.wrap (IntKind.u64.wrap (32 * ((x % 18446744073709551616 : Nat) : Int)) + IntKind.u64.wrap (y : Int)) = (((x * 32 + y) % 18446744073709551616 : Nat) : Int) := by
  rw [IntKind.wrap_u64, IntKind.wrap_u64, IntKind.wrap_u64]; omega

set_option maxRecDepth 100000 in
set_option maxHeartbeats 2000000 in
theorem rparseShort_13 (s : ByteArray) (w : World) (h : s.size = 13) :
    Calls Tryd.prog 42 #[.string s] w fun e w' => e = .returned (.tuple #[.int .u64 (readNum s), .int .i64 (readErr s)]) ∧ w' = w := by
  have hb : ((s.size : Int) != 13) = false := by simp; omega
  go_enter Tryd.func42, Tryd.ntmps42
  go_wp2
  go_loop [4] (fun i => ∃ k : Nat, k ≤ 13 ∧ i = .int .i64 k ∧ Hid (∀ d ∈ (worths s).take k, d < 32)) (fun i => 13 - (intOf i).toNat)
  case atStart => exact ⟨0, by omega, rfl, fun d hd => by simp at hd⟩
  case round =>
    obtain ⟨k, hk, rfl, hd⟩ := hrel
    by_cases hlt : k < 13
    · have hks : k < s.size := by omega
      have hw := fun w => rworth_any s[k].toNat w s[k].toNat_lt
      have hlts := rworth_lt s[k].toNat s[k].toNat_lt
      have hle := worthOf_le s[k].toNat s[k].toNat_lt
      have hts : Hid _ := worths_take s k hks
      by_cases h32 : worthOf s[k].toNat = 32
      · have hbad : Hid _ := read_bad s k hks h32
        have hneg := hlts.1.2 h32
        clear h32 hlts hle
        generalize rworthOf s[k].toNat = x at *
        go_wp2_with (go_at_call 74; refine (hw _).mono ?_; rintro e w' ⟨rfl, rfl⟩)
        go_ret2
        rw [hbad.out.1, hbad.out.2]
        exact ⟨rfl, rfl⟩
      · have hpos : ¬ rworthOf s[k].toNat < 0 := fun hh => h32 (hlts.1.1 hh)
        have hlt32 : Hid (worthOf s[k].toNat < 32) := by show _ < _; omega
        clear h32 hlts hle
        generalize rworthOf s[k].toNat = x at *
        go_wp2_with (go_at_call 74; refine (hw _).mono ?_; rintro e w' ⟨rfl, rfl⟩)
        refine ⟨⟨k + 1, by omega, by go_num, ?_⟩, by simp [intOf]; omega⟩
        rw [hts.out]
        intro d hdm
        rw [List.mem_append] at hdm
        rcases hdm with hdm | hdm
        · exact hd.out d hdm
        · rw [List.mem_singleton] at hdm; rw [hdm]; exact hlt32.out
    · have hk13 : k = 13 := by omega
      have hall : (worths s).take k = worths s := List.take_of_length_le (by rw [worths_length]; omega)
      rw [hall] at hd
      have hks : 0 < s.size := by omega
      have hw := fun w => rworth_any s[0].toNat w s[0].toNat_lt
      have hlts := (rworth_lt s[0].toNat s[0].toNat_lt).2 (hd.out _ (worths_mem s 0 hks))
      have hf := first_byte s hks
      rw [hlts] at hw
      subst hk13
      by_cases h8 : worthOf s[0].toNat < 8
      · have hfin : Hid (readNum s = valOf (worths s) % 18446744073709551616 ∧ readErr s = 0) := by
          have hsm := worths_small s h hd.out (by rw [hf]; exact h8)
          unfold readNum readErr
          rw [hf, if_pos ⟨h, hd.out, h8⟩, if_pos ⟨h, hd.out⟩, if_pos h8]
          exact ⟨by omega, rfl⟩
        clear hlts hf hall
        generalize worthOf s[0].toNat = x at *
        go_wp2_with (go_at_call 74; refine (hw _).mono ?_; rintro e w' ⟨rfl, rfl⟩)
        go_loop [7, 8] (fun n i => ∃ k : Nat, k ≤ 13 ∧ i = .int .i64 k ∧ n = .int .u64 ((valOf ((worths s).take k) % 18446744073709551616 : Nat) : Int)) (fun _ i => 13 - (intOf i).toNat)
        case atStart => exact ⟨0, by omega, rfl, rfl⟩
        case round =>
          obtain ⟨k, hk, rfl, rfl⟩ := hrel
          by_cases hlt : k < 13
          · have hks : k < s.size := by omega
            have hw2 := fun w => rworth_any s[k].toNat w s[k].toNat_lt
            have hlt32 := hd.out _ (worths_mem s k hks)
            rw [(rworth_lt s[k].toNat s[k].toNat_lt).2 hlt32] at hw2
            have hts : Hid _ := worths_take s k hks
            have hst : Hid _ := mul_step (valOf ((worths s).take k)) (worthOf s[k].toNat)
            clear hw hlt32
            generalize worthOf s[k].toNat = y at *
            go_wp2_with (go_at_call 74; refine (hw2 _).mono ?_; rintro e w' ⟨rfl, rfl⟩)
            refine ⟨⟨k + 1, by omega, by go_num, ?_⟩, by simp [intOf]; omega⟩
            rw [hts.out, valOf_snoc]
            exact congrArg _ hst.out
          · have hk13 : k = 13 := by omega
            subst hk13
            have hall : (worths s).take 13 = worths s := List.take_of_length_le (by rw [worths_length]; omega)
            rw [hall]
            clear hall hw
            go_wp2
            go_ret2
            rw [hfin.out.1, hfin.out.2]
            exact ⟨rfl, rfl⟩
      · have hfin : Hid (readNum s = 0 ∧ readErr s = 1) := by
          unfold readNum readErr
          rw [hf, if_neg (fun hh => h8 hh.2.2), if_pos ⟨h, hd.out⟩, if_neg h8]
          exact ⟨rfl, rfl⟩
        clear hlts hf hall
        generalize worthOf s[0].toNat = x at *
        go_wp2_with (go_at_call 74; refine (hw _).mono ?_; rintro e w' ⟨rfl, rfl⟩)
        go_ret2
        rw [hfin.out.1, hfin.out.2]
        exact ⟨rfl, rfl⟩
theorem rparseShort_any (s : ByteArray) (w : World) :
    Calls Tryd.prog 42 #[.string s] w fun e w' => e = .returned (.tuple #[.int .u64 (readNum s), .int .i64 (readErr s)]) ∧ w' = w := by
  by_cases h : s.size = 13
  · exact rparseShort_13 s w h
  · refine (rparseShort_len s w h).mono fun e w' hh => ?_
    unfold readNum readErr
    rw [if_neg (fun x => h x.1), if_neg (fun x => h x.1)]
    exact hh
end Go.Proofs.YtdplffhieekfaaaDoor
