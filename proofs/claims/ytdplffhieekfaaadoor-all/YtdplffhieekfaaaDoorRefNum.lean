/-
  The document's answer: Parts, Range, worth, ParseShort.
  Conditions: none but the numbers' own bounds.
-/
import Derived.Test.YtdplffhieekfaaaDoorOrder
namespace Go.Proofs.YtdplffhieekfaaaDoor
open Go.RowKit

set_option maxHeartbeats 400000 in
theorem rparts_ok (n : Int) (w : World) (h0 : 0 ≤ n) (h1 : n < 9223372036854775808) :
    Calls Tryd.prog 39 #[.int .u64 n] w fun e w' => e = .returned (.tuple #[.agg #[.int .i64 (n / 4194304), .int .i64 (n / 4096 % 1024), .int .i64 (n % 4096)], .int .i64 0]) ∧ Below w.heap.size w w' := by
  go_enter Tryd.func39, Tryd.ntmps39
  go_wp2
  refine bodyPost_ret (v := .tuple #[.agg #[.int .i64 (n / 4194304), .int .i64 (n / 4096 % 1024), .int .i64 (n % 4096)], .int .i64 0]) (by simp [results, Tryd.results39, go_sem]) rfl ⟨rfl, ?_⟩
  exact (Below.refl _ w).alloc (Nat.le_refl _) _
set_option maxHeartbeats 400000 in
theorem rparts_no (n : Int) (w : World) (h1 : 9223372036854775808 ≤ n) :
    Calls Tryd.prog 39 #[.int .u64 n] w fun e w' => e = .returned (.tuple #[.agg #[.int .i64 0, .int .i64 0, .int .i64 0], .int .i64 1]) ∧ Below w.heap.size w w' := by
  go_enter Tryd.func39, Tryd.ntmps39
  go_wp2
  refine bodyPost_ret (v := .tuple #[.agg #[.int .i64 0, .int .i64 0, .int .i64 0], .int .i64 1]) (by simp [results, Tryd.results39, go_sem]) rfl ⟨rfl, ?_⟩
  exact (Below.refl _ w).alloc (Nat.le_refl _) _
set_option maxHeartbeats 400000 in
theorem parts_no (n : Int) (w : World) (h1 : 9223372036854775808 ≤ n) :
    Calls Tryd.prog 18 #[.int .u64 n] w fun e w' => e = .returned (.tuple #[.agg #[.int .i64 0, .int .i64 0, .int .i64 0], .int .i64 1]) ∧ Below w.heap.size w w' := by
  have hi := fun w => is_no n w h1
  go_enter Tryd.func18, Tryd.ntmps18
  go_wp2_with (go_at_call 19; refine (hi _).mono ?_; rintro e w' ⟨rfl, rfl⟩)
  refine bodyPost_ret (v := .tuple #[.agg #[.int .i64 0, .int .i64 0, .int .i64 0], .int .i64 1]) (by simp [results, Tryd.results18, go_sem]) rfl ⟨rfl, ?_⟩
  exact (Below.refl _ w).alloc (Nat.le_refl _) _
set_option maxHeartbeats 400000 in
theorem rrange_ok (f t : Int) (w : World) (h0 : 0 ≤ f) (h1 : f ≤ t) (h2 : t ≤ 2199023255552) :
    Calls Tryd.prog 44 #[.int .i64 f, .int .i64 t] w fun e w' => e = .returned (.tuple #[.int .u64 (f * 4194304), .int .u64 (t * 4194304), .int .i64 0]) ∧ w' = w := by
  go_enter Tryd.func44, Tryd.ntmps44
  go_wp2
  go_ret3
  exact ⟨rfl, rfl⟩
set_option maxHeartbeats 400000 in
theorem rrange_no (f t : Int) (w : World) (h : f < 0 ∨ t < f ∨ 2199023255552 < t) :
    Calls Tryd.prog 44 #[.int .i64 f, .int .i64 t] w fun e w' => e = .returned (.tuple #[.int .u64 0, .int .u64 0, .int .i64 1]) ∧ w' = w := by
  by_cases h1 : f < 0
  · go_enter Tryd.func44, Tryd.ntmps44
    go_wp2
    go_ret3
    exact ⟨rfl, rfl⟩
  · by_cases h2 : t < f
    · go_enter Tryd.func44, Tryd.ntmps44
      go_wp2
      go_ret3
      exact ⟨rfl, rfl⟩
    · have h3 : 2199023255552 < t := by omega
      clear h
      go_enter Tryd.func44, Tryd.ntmps44
      go_wp2
      go_ret3
      exact ⟨rfl, rfl⟩

/-- What the document makes of a letter. -/
def rworthOf (c : Nat) : Int := if worthOf c < 32 then worthOf c else -1
def litOf (c : Nat) : Nat := if greatOf c = 73 ∨ greatOf c = 76 then 49 else if greatOf c = 79 then 48 else greatOf c

theorem rworth_found (c j : Nat) (hc : c < 256) (hj : j < 32) (h : letterOf j = litOf c) : rworthOf c = j := by
  have key : ∀ c : Fin 256, ∀ j : Fin 32, letterOf j.1 = litOf c.1 → rworthOf c.1 = j.1 := by decide +kernel
  exact key ⟨c, hc⟩ ⟨j, hj⟩ h
theorem rworth_none (c : Nat) (hc : c < 256) (hb : ∀ i, i < 32 → letterOf i ≠ litOf c) : rworthOf c = -1 := by
  have key : ∀ c : Fin 256, (∀ i : Fin 32, letterOf i.1 ≠ litOf c.1) → rworthOf c.1 = -1 := by decide +kernel
  exact key ⟨c, hc⟩ fun i => hb i.1 i.2

set_option maxRecDepth 100000 in
set_option maxHeartbeats 2000000 in
theorem rworth_any (c : Nat) (w : World) (h : c < 256) :
    Calls Tryd.prog 74 #[.int .u8 (c : Int)] w fun e w' => e = .returned (.int .i64 (rworthOf c)) ∧ w' = w := by
  by_cases h1 : 97 ≤ c ∧ c ≤ 122
  · obtain ⟨h1a, h1b⟩ := h1
    by_cases h73 : c = 105
    · have hlit : Hid (litOf c = 49) := by subst h73; rfl
      have b1 : ((c : Int) - 32 == 73) = true := by rw [beq_iff_eq]; omega
      clear h73
      go_enter Tryd.func74, Tryd.ntmps74
      go_wp2
      go_loop [3] (fun i => ∃ k : Nat, k ≤ 32 ∧ i = .int .i64 k ∧ Hid (∀ j, j < k → letterOf j ≠ litOf c)) (fun i => 32 - (intOf i).toNat)
      case atStart => exact ⟨0, by omega, rfl, fun j hj => absurd hj (by omega)⟩
      case round =>
        obtain ⟨k, hk, rfl, hno⟩ := hrel
        by_cases hlt : k < 32
        · have ha := alpha_at k (show k < 32 from hlt)
          by_cases hf : letterOf k = litOf c
          · have hfin : Hid _ := rworth_found c k h hlt hf
            have hb : ((((⟨#[48, 49, 50, 51, 52, 53, 54, 55, 56, 57, 65, 66, 67, 68, 69, 70, 71, 72, 74, 75, 77, 78, 80, 81, 82, 83, 84, 86, 87, 88, 89, 90]⟩ : ByteArray)[k]'(show k < 32 from hlt)).toNat : Int) == 49) = true := by
              rw [ha, hf, beq_iff_eq, hlit.out] <;> omega
            clear ha hf
            go_wp2
            go_ret
            rw [hfin.out]
            exact ⟨rfl, rfl⟩
          · have hb : ((((⟨#[48, 49, 50, 51, 52, 53, 54, 55, 56, 57, 65, 66, 67, 68, 69, 70, 71, 72, 74, 75, 77, 78, 80, 81, 82, 83, 84, 86, 87, 88, 89, 90]⟩ : ByteArray)[k]'(show k < 32 from hlt)).toNat : Int) == 49) = false := by
              rw [ha, beq_eq_false_iff_ne]; rw [hlit.out] at hf; omega
            have hf' : Hid _ := hf
            clear ha hf
            go_wp2
            refine ⟨⟨k + 1, by omega, by go_num, fun j hj => ?_⟩, by simp [intOf]; omega⟩
            by_cases hjk : j = k
            · rw [hjk]; exact hf'.out
            · exact hno.out j (by omega)
        · have hk32 : k = 32 := by omega
          subst hk32
          have hfin : Hid _ := rworth_none c h hno.out
          go_wp2
          go_ret
          rw [hfin.out]
          exact ⟨rfl, rfl⟩
    · by_cases h76 : c = 108
      · have hlit : Hid (litOf c = 49) := by subst h76; rfl
        have b1 : ((c : Int) - 32 == 73) = false := by rw [beq_eq_false_iff_ne]; omega
        have b2 : ((c : Int) - 32 == 76) = true := by rw [beq_iff_eq]; omega
        clear h73 h76
        go_enter Tryd.func74, Tryd.ntmps74
        go_wp2
        go_loop [3] (fun i => ∃ k : Nat, k ≤ 32 ∧ i = .int .i64 k ∧ Hid (∀ j, j < k → letterOf j ≠ litOf c)) (fun i => 32 - (intOf i).toNat)
        case atStart => exact ⟨0, by omega, rfl, fun j hj => absurd hj (by omega)⟩
        case round =>
          obtain ⟨k, hk, rfl, hno⟩ := hrel
          by_cases hlt : k < 32
          · have ha := alpha_at k (show k < 32 from hlt)
            by_cases hf : letterOf k = litOf c
            · have hfin : Hid _ := rworth_found c k h hlt hf
              have hb : ((((⟨#[48, 49, 50, 51, 52, 53, 54, 55, 56, 57, 65, 66, 67, 68, 69, 70, 71, 72, 74, 75, 77, 78, 80, 81, 82, 83, 84, 86, 87, 88, 89, 90]⟩ : ByteArray)[k]'(show k < 32 from hlt)).toNat : Int) == 49) = true := by
                rw [ha, hf, beq_iff_eq, hlit.out] <;> omega
              clear ha hf
              go_wp2
              go_ret
              rw [hfin.out]
              exact ⟨rfl, rfl⟩
            · have hb : ((((⟨#[48, 49, 50, 51, 52, 53, 54, 55, 56, 57, 65, 66, 67, 68, 69, 70, 71, 72, 74, 75, 77, 78, 80, 81, 82, 83, 84, 86, 87, 88, 89, 90]⟩ : ByteArray)[k]'(show k < 32 from hlt)).toNat : Int) == 49) = false := by
                rw [ha, beq_eq_false_iff_ne]; rw [hlit.out] at hf; omega
              have hf' : Hid _ := hf
              clear ha hf
              go_wp2
              refine ⟨⟨k + 1, by omega, by go_num, fun j hj => ?_⟩, by simp [intOf]; omega⟩
              by_cases hjk : j = k
              · rw [hjk]; exact hf'.out
              · exact hno.out j (by omega)
          · have hk32 : k = 32 := by omega
            subst hk32
            have hfin : Hid _ := rworth_none c h hno.out
            go_wp2
            go_ret
            rw [hfin.out]
            exact ⟨rfl, rfl⟩
      · have b1 : ((c : Int) - 32 == 73) = false := by rw [beq_eq_false_iff_ne]; omega
        have b2 : ((c : Int) - 32 == 76) = false := by rw [beq_eq_false_iff_ne]; omega
        by_cases h79 : c = 111
        · have hlit : Hid (litOf c = 48) := by subst h79; rfl
          have b3 : ((c : Int) - 32 == 79) = true := by rw [beq_iff_eq]; omega
          clear h73 h76 h79
          go_enter Tryd.func74, Tryd.ntmps74
          go_wp2
          go_loop [3] (fun i => ∃ k : Nat, k ≤ 32 ∧ i = .int .i64 k ∧ Hid (∀ j, j < k → letterOf j ≠ litOf c)) (fun i => 32 - (intOf i).toNat)
          case atStart => exact ⟨0, by omega, rfl, fun j hj => absurd hj (by omega)⟩
          case round =>
            obtain ⟨k, hk, rfl, hno⟩ := hrel
            by_cases hlt : k < 32
            · have ha := alpha_at k (show k < 32 from hlt)
              by_cases hf : letterOf k = litOf c
              · have hfin : Hid _ := rworth_found c k h hlt hf
                have hb : ((((⟨#[48, 49, 50, 51, 52, 53, 54, 55, 56, 57, 65, 66, 67, 68, 69, 70, 71, 72, 74, 75, 77, 78, 80, 81, 82, 83, 84, 86, 87, 88, 89, 90]⟩ : ByteArray)[k]'(show k < 32 from hlt)).toNat : Int) == 48) = true := by
                  rw [ha, hf, beq_iff_eq, hlit.out] <;> omega
                clear ha hf
                go_wp2
                go_ret
                rw [hfin.out]
                exact ⟨rfl, rfl⟩
              · have hb : ((((⟨#[48, 49, 50, 51, 52, 53, 54, 55, 56, 57, 65, 66, 67, 68, 69, 70, 71, 72, 74, 75, 77, 78, 80, 81, 82, 83, 84, 86, 87, 88, 89, 90]⟩ : ByteArray)[k]'(show k < 32 from hlt)).toNat : Int) == 48) = false := by
                  rw [ha, beq_eq_false_iff_ne]; rw [hlit.out] at hf; omega
                have hf' : Hid _ := hf
                clear ha hf
                go_wp2
                refine ⟨⟨k + 1, by omega, by go_num, fun j hj => ?_⟩, by simp [intOf]; omega⟩
                by_cases hjk : j = k
                · rw [hjk]; exact hf'.out
                · exact hno.out j (by omega)
            · have hk32 : k = 32 := by omega
              subst hk32
              have hfin : Hid _ := rworth_none c h hno.out
              go_wp2
              go_ret
              rw [hfin.out]
              exact ⟨rfl, rfl⟩
        · have hlit : Hid (litOf c = c - 32) := by
            have hg : greatOf c = c - 32 := by unfold greatOf; rw [if_pos ⟨h1a, h1b⟩]
            show litOf c = c - 32
            unfold litOf; rw [hg, if_neg (by omega), if_neg (by omega)]
          have b3 : ((c : Int) - 32 == 79) = false := by rw [beq_eq_false_iff_ne]; omega
          clear h73 h76 h79
          go_enter Tryd.func74, Tryd.ntmps74
          go_wp2
          go_loop [3] (fun i => ∃ k : Nat, k ≤ 32 ∧ i = .int .i64 k ∧ Hid (∀ j, j < k → letterOf j ≠ litOf c)) (fun i => 32 - (intOf i).toNat)
          case atStart => exact ⟨0, by omega, rfl, fun j hj => absurd hj (by omega)⟩
          case round =>
            obtain ⟨k, hk, rfl, hno⟩ := hrel
            by_cases hlt : k < 32
            · have ha := alpha_at k (show k < 32 from hlt)
              by_cases hf : letterOf k = litOf c
              · have hfin : Hid _ := rworth_found c k h hlt hf
                have hb : ((((⟨#[48, 49, 50, 51, 52, 53, 54, 55, 56, 57, 65, 66, 67, 68, 69, 70, 71, 72, 74, 75, 77, 78, 80, 81, 82, 83, 84, 86, 87, 88, 89, 90]⟩ : ByteArray)[k]'(show k < 32 from hlt)).toNat : Int) == (c : Int) - 32) = true := by
                  rw [ha, hf, beq_iff_eq, hlit.out] <;> omega
                clear ha hf
                go_wp2
                go_ret
                rw [hfin.out]
                exact ⟨rfl, rfl⟩
              · have hb : ((((⟨#[48, 49, 50, 51, 52, 53, 54, 55, 56, 57, 65, 66, 67, 68, 69, 70, 71, 72, 74, 75, 77, 78, 80, 81, 82, 83, 84, 86, 87, 88, 89, 90]⟩ : ByteArray)[k]'(show k < 32 from hlt)).toNat : Int) == (c : Int) - 32) = false := by
                  rw [ha, beq_eq_false_iff_ne]; rw [hlit.out] at hf; omega
                have hf' : Hid _ := hf
                clear ha hf
                go_wp2
                refine ⟨⟨k + 1, by omega, by go_num, fun j hj => ?_⟩, by simp [intOf]; omega⟩
                by_cases hjk : j = k
                · rw [hjk]; exact hf'.out
                · exact hno.out j (by omega)
            · have hk32 : k = 32 := by omega
              subst hk32
              have hfin : Hid _ := rworth_none c h hno.out
              go_wp2
              go_ret
              rw [hfin.out]
              exact ⟨rfl, rfl⟩
  · by_cases h73 : c = 73
    · subst h73
      have hlit : Hid (litOf 73 = 49) := by rfl
      have h1' : True := trivial
      clear h1
      go_enter Tryd.func74, Tryd.ntmps74
      go_wp2
      go_loop [3] (fun i => ∃ k : Nat, k ≤ 32 ∧ i = .int .i64 k ∧ Hid (∀ j, j < k → letterOf j ≠ litOf 73)) (fun i => 32 - (intOf i).toNat)
      case atStart => exact ⟨0, by omega, rfl, fun j hj => absurd hj (by omega)⟩
      case round =>
        obtain ⟨k, hk, rfl, hno⟩ := hrel
        by_cases hlt : k < 32
        · have ha := alpha_at k (show k < 32 from hlt)
          by_cases hf : letterOf k = litOf 73
          · have hfin : Hid _ := rworth_found 73 k h hlt hf
            have hb : ((((⟨#[48, 49, 50, 51, 52, 53, 54, 55, 56, 57, 65, 66, 67, 68, 69, 70, 71, 72, 74, 75, 77, 78, 80, 81, 82, 83, 84, 86, 87, 88, 89, 90]⟩ : ByteArray)[k]'(show k < 32 from hlt)).toNat : Int) == 49) = true := by
              rw [ha, hf, beq_iff_eq, hlit.out] <;> omega
            clear ha hf
            go_wp2
            go_ret
            rw [hfin.out]
            exact ⟨rfl, rfl⟩
          · have hb : ((((⟨#[48, 49, 50, 51, 52, 53, 54, 55, 56, 57, 65, 66, 67, 68, 69, 70, 71, 72, 74, 75, 77, 78, 80, 81, 82, 83, 84, 86, 87, 88, 89, 90]⟩ : ByteArray)[k]'(show k < 32 from hlt)).toNat : Int) == 49) = false := by
              rw [ha, beq_eq_false_iff_ne]; rw [hlit.out] at hf; omega
            have hf' : Hid _ := hf
            clear ha hf
            go_wp2
            refine ⟨⟨k + 1, by omega, by go_num, fun j hj => ?_⟩, by simp [intOf]; omega⟩
            by_cases hjk : j = k
            · rw [hjk]; exact hf'.out
            · exact hno.out j (by omega)
        · have hk32 : k = 32 := by omega
          subst hk32
          have hfin : Hid _ := rworth_none 73 h hno.out
          go_wp2
          go_ret
          rw [hfin.out]
          exact ⟨rfl, rfl⟩
    · by_cases h76 : c = 76
      · subst h76
        have hlit : Hid (litOf 76 = 49) := by rfl
        clear h1 h73
        go_enter Tryd.func74, Tryd.ntmps74
        go_wp2
        go_loop [3] (fun i => ∃ k : Nat, k ≤ 32 ∧ i = .int .i64 k ∧ Hid (∀ j, j < k → letterOf j ≠ litOf 76)) (fun i => 32 - (intOf i).toNat)
        case atStart => exact ⟨0, by omega, rfl, fun j hj => absurd hj (by omega)⟩
        case round =>
          obtain ⟨k, hk, rfl, hno⟩ := hrel
          by_cases hlt : k < 32
          · have ha := alpha_at k (show k < 32 from hlt)
            by_cases hf : letterOf k = litOf 76
            · have hfin : Hid _ := rworth_found 76 k h hlt hf
              have hb : ((((⟨#[48, 49, 50, 51, 52, 53, 54, 55, 56, 57, 65, 66, 67, 68, 69, 70, 71, 72, 74, 75, 77, 78, 80, 81, 82, 83, 84, 86, 87, 88, 89, 90]⟩ : ByteArray)[k]'(show k < 32 from hlt)).toNat : Int) == 49) = true := by
                rw [ha, hf, beq_iff_eq, hlit.out] <;> omega
              clear ha hf
              go_wp2
              go_ret
              rw [hfin.out]
              exact ⟨rfl, rfl⟩
            · have hb : ((((⟨#[48, 49, 50, 51, 52, 53, 54, 55, 56, 57, 65, 66, 67, 68, 69, 70, 71, 72, 74, 75, 77, 78, 80, 81, 82, 83, 84, 86, 87, 88, 89, 90]⟩ : ByteArray)[k]'(show k < 32 from hlt)).toNat : Int) == 49) = false := by
                rw [ha, beq_eq_false_iff_ne]; rw [hlit.out] at hf; omega
              have hf' : Hid _ := hf
              clear ha hf
              go_wp2
              refine ⟨⟨k + 1, by omega, by go_num, fun j hj => ?_⟩, by simp [intOf]; omega⟩
              by_cases hjk : j = k
              · rw [hjk]; exact hf'.out
              · exact hno.out j (by omega)
          · have hk32 : k = 32 := by omega
            subst hk32
            have hfin : Hid _ := rworth_none 76 h hno.out
            go_wp2
            go_ret
            rw [hfin.out]
            exact ⟨rfl, rfl⟩
      · by_cases h79 : c = 79
        · subst h79
          have hlit : Hid (litOf 79 = 48) := by rfl
          clear h1 h73 h76
          go_enter Tryd.func74, Tryd.ntmps74
          go_wp2
          go_loop [3] (fun i => ∃ k : Nat, k ≤ 32 ∧ i = .int .i64 k ∧ Hid (∀ j, j < k → letterOf j ≠ litOf 79)) (fun i => 32 - (intOf i).toNat)
          case atStart => exact ⟨0, by omega, rfl, fun j hj => absurd hj (by omega)⟩
          case round =>
            obtain ⟨k, hk, rfl, hno⟩ := hrel
            by_cases hlt : k < 32
            · have ha := alpha_at k (show k < 32 from hlt)
              by_cases hf : letterOf k = litOf 79
              · have hfin : Hid _ := rworth_found 79 k h hlt hf
                have hb : ((((⟨#[48, 49, 50, 51, 52, 53, 54, 55, 56, 57, 65, 66, 67, 68, 69, 70, 71, 72, 74, 75, 77, 78, 80, 81, 82, 83, 84, 86, 87, 88, 89, 90]⟩ : ByteArray)[k]'(show k < 32 from hlt)).toNat : Int) == 48) = true := by
                  rw [ha, hf, beq_iff_eq, hlit.out] <;> omega
                clear ha hf
                go_wp2
                go_ret
                rw [hfin.out]
                exact ⟨rfl, rfl⟩
              · have hb : ((((⟨#[48, 49, 50, 51, 52, 53, 54, 55, 56, 57, 65, 66, 67, 68, 69, 70, 71, 72, 74, 75, 77, 78, 80, 81, 82, 83, 84, 86, 87, 88, 89, 90]⟩ : ByteArray)[k]'(show k < 32 from hlt)).toNat : Int) == 48) = false := by
                  rw [ha, beq_eq_false_iff_ne]; rw [hlit.out] at hf; omega
                have hf' : Hid _ := hf
                clear ha hf
                go_wp2
                refine ⟨⟨k + 1, by omega, by go_num, fun j hj => ?_⟩, by simp [intOf]; omega⟩
                by_cases hjk : j = k
                · rw [hjk]; exact hf'.out
                · exact hno.out j (by omega)
            · have hk32 : k = 32 := by omega
              subst hk32
              have hfin : Hid _ := rworth_none 79 h hno.out
              go_wp2
              go_ret
              rw [hfin.out]
              exact ⟨rfl, rfl⟩
        · have hlit : Hid (litOf c = c) := by
            have hg : greatOf c = c := by unfold greatOf; rw [if_neg h1]
            show litOf c = c
            unfold litOf; rw [hg, if_neg (by omega), if_neg (by omega)]
          have b1 : ((c : Int) == 73) = false := by rw [beq_eq_false_iff_ne]; omega
          have b2 : ((c : Int) == 76) = false := by rw [beq_eq_false_iff_ne]; omega
          have b3 : ((c : Int) == 79) = false := by rw [beq_eq_false_iff_ne]; omega
          clear h73 h76 h79
          by_cases h97 : 97 ≤ c
          · have h122 : 122 < c := by omega
            clear h1
            go_enter Tryd.func74, Tryd.ntmps74
            go_wp2
            go_loop [3] (fun i => ∃ k : Nat, k ≤ 32 ∧ i = .int .i64 k ∧ Hid (∀ j, j < k → letterOf j ≠ litOf c)) (fun i => 32 - (intOf i).toNat)
            case atStart => exact ⟨0, by omega, rfl, fun j hj => absurd hj (by omega)⟩
            case round =>
              obtain ⟨k, hk, rfl, hno⟩ := hrel
              by_cases hlt : k < 32
              · have ha := alpha_at k (show k < 32 from hlt)
                by_cases hf : letterOf k = litOf c
                · have hfin : Hid _ := rworth_found c k h hlt hf
                  have hb : ((((⟨#[48, 49, 50, 51, 52, 53, 54, 55, 56, 57, 65, 66, 67, 68, 69, 70, 71, 72, 74, 75, 77, 78, 80, 81, 82, 83, 84, 86, 87, 88, 89, 90]⟩ : ByteArray)[k]'(show k < 32 from hlt)).toNat : Int) == (c : Int)) = true := by
                    rw [ha, hf, beq_iff_eq, hlit.out] <;> omega
                  clear ha hf
                  go_wp2
                  go_ret
                  rw [hfin.out]
                  exact ⟨rfl, rfl⟩
                · have hb : ((((⟨#[48, 49, 50, 51, 52, 53, 54, 55, 56, 57, 65, 66, 67, 68, 69, 70, 71, 72, 74, 75, 77, 78, 80, 81, 82, 83, 84, 86, 87, 88, 89, 90]⟩ : ByteArray)[k]'(show k < 32 from hlt)).toNat : Int) == (c : Int)) = false := by
                    rw [ha, beq_eq_false_iff_ne]; rw [hlit.out] at hf; omega
                  have hf' : Hid _ := hf
                  clear ha hf
                  go_wp2
                  refine ⟨⟨k + 1, by omega, by go_num, fun j hj => ?_⟩, by simp [intOf]; omega⟩
                  by_cases hjk : j = k
                  · rw [hjk]; exact hf'.out
                  · exact hno.out j (by omega)
              · have hk32 : k = 32 := by omega
                subst hk32
                have hfin : Hid _ := rworth_none c h hno.out
                go_wp2
                go_ret
                rw [hfin.out]
                exact ⟨rfl, rfl⟩
          · clear h1
            go_enter Tryd.func74, Tryd.ntmps74
            go_wp2
            go_loop [3] (fun i => ∃ k : Nat, k ≤ 32 ∧ i = .int .i64 k ∧ Hid (∀ j, j < k → letterOf j ≠ litOf c)) (fun i => 32 - (intOf i).toNat)
            case atStart => exact ⟨0, by omega, rfl, fun j hj => absurd hj (by omega)⟩
            case round =>
              obtain ⟨k, hk, rfl, hno⟩ := hrel
              by_cases hlt : k < 32
              · have ha := alpha_at k (show k < 32 from hlt)
                by_cases hf : letterOf k = litOf c
                · have hfin : Hid _ := rworth_found c k h hlt hf
                  have hb : ((((⟨#[48, 49, 50, 51, 52, 53, 54, 55, 56, 57, 65, 66, 67, 68, 69, 70, 71, 72, 74, 75, 77, 78, 80, 81, 82, 83, 84, 86, 87, 88, 89, 90]⟩ : ByteArray)[k]'(show k < 32 from hlt)).toNat : Int) == (c : Int)) = true := by
                    rw [ha, hf, beq_iff_eq, hlit.out] <;> omega
                  clear ha hf
                  go_wp2
                  go_ret
                  rw [hfin.out]
                  exact ⟨rfl, rfl⟩
                · have hb : ((((⟨#[48, 49, 50, 51, 52, 53, 54, 55, 56, 57, 65, 66, 67, 68, 69, 70, 71, 72, 74, 75, 77, 78, 80, 81, 82, 83, 84, 86, 87, 88, 89, 90]⟩ : ByteArray)[k]'(show k < 32 from hlt)).toNat : Int) == (c : Int)) = false := by
                    rw [ha, beq_eq_false_iff_ne]; rw [hlit.out] at hf; omega
                  have hf' : Hid _ := hf
                  clear ha hf
                  go_wp2
                  refine ⟨⟨k + 1, by omega, by go_num, fun j hj => ?_⟩, by simp [intOf]; omega⟩
                  by_cases hjk : j = k
                  · rw [hjk]; exact hf'.out
                  · exact hno.out j (by omega)
              · have hk32 : k = 32 := by omega
                subst hk32
                have hfin : Hid _ := rworth_none c h hno.out
                go_wp2
                go_ret
                rw [hfin.out]
                exact ⟨rfl, rfl⟩
end Go.Proofs.YtdplffhieekfaaaDoor
