/-
  stampslaw's look at the lists that came out: all read as their owner wrote them.
  Conditions: they do.
-/
import Derived.Test.YtdplffhieekfaaaDoorLawPick
namespace Go.Proofs.YtdplffhieekfaaaDoor
open Go.RowKit

/-- The lists that came out, in memory: each reads as its mark. -/
structure ListsAt (w : World) (B gl gm q capl capm : Nat) (A : Nat → Option Addr) (N C : Nat → Nat) (M : Nat → Int) : Prop where
  lists : w.cell? ⟨B, 2, none⟩ = some (.slice (some ⟨gl, 0, none⟩) q capl)
  marks : w.cell? ⟨B, 3, none⟩ = some (.slice (some ⟨gm, 0, none⟩) q capm)
  len : q ≤ 9223372036854775806
  each : ∀ j, j < q → w.cell? ⟨gl, j, none⟩ = some (.slice (A j) (N j) (C j)) ∧ w.cell? ⟨gm, j, none⟩ = some (.int .u64 (M j)) ∧ N j ≤ 100000
  read : ∀ j, j < q → ∀ k, k < N j → ∃ a, A j = some ⟨a, 0, none⟩ ∧ w.cell? ⟨a, k, none⟩ = some (.int .u64 (M j))

set_option maxRecDepth 100000 in
set_option maxHeartbeats 2000000 in
theorem still_any {B gl gm q capl capm : Nat} {A : Nat → Option Addr} {N C : Nat → Nat} {M : Nat → Int} (w : World) (h : ListsAt w B gl gm q capl capm A N C M) :
    Calls Tryd.prog 15 #[.pointer (some ⟨B, 0, none⟩)] w fun e w' => e = .returned (.bool true) ∧ ∃ n, w' = w.drewN n := by
  have hl := h.lists
  have hm := h.marks
  have hq := h.len
  have he : Hid _ := h.each
  have hr : Hid _ := h.read
  clear h
  go_enter Tryd.func15, Tryd.ntmps15
  go_wp2
  go_loopw [3] (fun i W => ∃ (j n : Nat), j ≤ q ∧ i = .int .i64 j ∧ W = w.drewN n) (fun i _ => q - (intOf i).toNat)
  case atStart => exact ⟨0, 0, by omega, rfl, rfl⟩
  case round =>
    obtain ⟨j, n, hj, rfl, rfl⟩ := hrel
    by_cases hlt : j < q
    · obtain ⟨e1, e2, e3⟩ := he.out j hlt
      have hrj : Hid _ := hr.out j hlt
      obtain ⟨nj, hnj⟩ : ∃ nj, nj = N j := ⟨_, rfl⟩
      rw [← hnj] at e1 e3 hrj
      clear hnj
      go_wp2_with fail
      go_loopw [5] (fun k W => ∃ (i m : Nat), i ≤ nj ∧ k = .int .i64 i ∧ W = w.drewN m) (fun k _ => nj - (intOf k).toNat)
      case atStart => exact ⟨0, n, by omega, rfl, rfl⟩
      case round =>
        obtain ⟨i, m, hi, rfl, rfl⟩ := hrel
        by_cases hik : i < nj
        · obtain ⟨a, ea, ca⟩ := hrj.out i hik
          have hal : ∀ (c : Nat), w.cell? ⟨gl, j, none⟩ = some (.slice (some ⟨a, 0, none⟩) nj (C j)) := fun _ => by rw [e1, ea]
          have e1' := hal 0
          have heq : (M j != M j) = false := by simp
          clear hal ea e1
          by_cases s1 : 50 < i
          · by_cases s2 : i + 50 < nj
            · by_cases s3 : ((i : Int) % 100 != 0) = true
              · go_wp2
                exact ⟨⟨i + 1, m, by omega, by go_num, rfl⟩, by simp [intOf]; omega⟩
              · have s3' : ((i : Int) % 100 != 0) = false := by simpa using s3
                clear s3
                go_wp2
                go_quiet (fail)
                go_wp2
                exact ⟨⟨i + 1, m + nq, by omega, by go_num, rfl⟩, by simp [intOf]; omega⟩
            · go_wp2
              go_quiet (fail)
              go_wp2
              exact ⟨⟨i + 1, m + nq, by omega, by go_num, rfl⟩, by simp [intOf]; omega⟩
          · go_wp2
            go_quiet (fail)
            go_wp2
            exact ⟨⟨i + 1, m + nq, by omega, by go_num, rfl⟩, by simp [intOf]; omega⟩
        · go_wp2
          exact ⟨⟨j + 1, m, by omega, by go_num, rfl⟩, by simp [intOf]; omega⟩
    · go_wp2
      go_ret
      exact ⟨rfl, _, rfl⟩
end Go.Proofs.YtdplffhieekfaaaDoor
