/-
  What the small functions that only reckon answer: number.Is, First, Split, Join; stamps.Parts, Range; stampskeep.pick.
  Conditions: their arguments fit their kinds; of Join, that the parts are a number's.
-/
import Derived.Test.YtdplffhieekfaaaDoorRows
import Derived.WalkKit
import Derived.WalkSpells
import Derived.WalkLawsBesides
import Derived.Deep.QuietTactic
import Derived.BigQuiet
namespace Go.Proofs.YtdplffhieekfaaaDoor
open Go.RowKit

/-- The number of a time, a node and a place. -/
def numOf (t nd s : Int) : Int := t * 4194304 + nd * 4096 + s

theorem bcell {W w1 : World} (hb : Below W.heap.size W w1) : (∀ b o, b < W.heap.size → w1.cell? ⟨b, o, none⟩ = W.cell? ⟨b, o, none⟩) ∧ (∀ b o, b < W.heap.size → w1.frozen? ⟨b, o, none⟩ = W.frozen? ⟨b, o, none⟩) :=
  ⟨fun b o h => hb.cell (p := ⟨b, o, none⟩) h, fun b o h => hb.frozen (p := ⟨b, o, none⟩) h⟩

/-- Which of n things the raw number c speaks of. -/
def pickI (c n : Int) : Int := (if c < 0 then -(c + 1) else c) % n

theorem pickI_bounds (c n : Int) (hn : 0 < n) : 0 ≤ pickI c n ∧ pickI c n < n :=
  ⟨Int.emod_nonneg _ (by omega), Int.emod_lt_of_pos _ hn⟩

set_option maxHeartbeats 400000 in
theorem is_any (n : Int) (w : World) :
    Calls Tryd.prog 19 #[.int .u64 n] w fun e w' => e = .returned (.bool (decide (n < 9223372036854775808))) ∧ w' = w := by
  go_enter Tryd.func19, Tryd.ntmps19
  go_wp2
  go_ret
  exact ⟨rfl, rfl⟩

theorem is_yes (n : Int) (w : World) (h : n < 9223372036854775808) :
    Calls Tryd.prog 19 #[.int .u64 n] w fun e w' => e = .returned (.bool true) ∧ w' = w := by
  have := is_any n w
  rw [decide_eq_true h] at this
  exact this
theorem is_no (n : Int) (w : World) (h : 9223372036854775808 ≤ n) :
    Calls Tryd.prog 19 #[.int .u64 n] w fun e w' => e = .returned (.bool false) ∧ w' = w := by
  have := is_any n w
  rw [decide_eq_false (by omega)] at this
  exact this

set_option maxHeartbeats 400000 in
theorem first_any (t : Int) (w : World) (h0 : 0 ≤ t) (h1 : t ≤ 2199023255552) :
    Calls Tryd.prog 75 #[.int .i64 t] w fun e w' => e = .returned (.int .u64 (t * 4194304)) ∧ w' = w := by
  go_enter Tryd.func75, Tryd.ntmps75
  go_wp2
  go_ret
  exact ⟨rfl, rfl⟩

set_option maxHeartbeats 400000 in
theorem split_any (n : Int) (w : World) (h0 : 0 ≤ n) (h1 : n < 9223372036854775808) :
    Calls Tryd.prog 33 #[.int .u64 n] w fun e w' => e = .returned (.agg #[.int .i64 (n / 4194304), .int .i64 (n / 4096 % 1024), .int .i64 (n % 4096)]) ∧ Below w.heap.size w w' := by
  go_enter Tryd.func33, Tryd.ntmps33
  go_wp2
  exact bodyPost_ret (v := .agg #[.int .i64 (n / 4194304), .int .i64 (n / 4096 % 1024), .int .i64 (n % 4096)]) (by simp [results, Tryd.results33, go_sem]) rfl ⟨rfl, (Below.refl _ _).alloc (Nat.le_refl _) _⟩

set_option maxHeartbeats 400000 in
theorem join_any (t nd s : Int) (w : World) (h0 : 0 ≤ t) (h1 : t ≤ 2199023255552) (h2 : 0 ≤ nd) (h3 : nd < 1024) (h4 : 0 ≤ s) (h5 : s < 4096) :
    Calls Tryd.prog 83 #[.agg #[.int .i64 t, .int .i64 nd, .int .i64 s]] w fun e w' => e = .returned (.int .u64 (numOf t nd s)) ∧ Below w.heap.size w w' := by
  go_enter Tryd.func83, Tryd.ntmps83
  go_wp2
  go_quiet ((go_at_call 75; exact Calls.quiet_of_same (first_any _ _ (by omega) (by omega))))
  go_wp2
  go_ret
  exact ⟨rfl, below_drewN ((Below.refl _ _).alloc (Nat.le_refl _) _) _⟩

set_option maxHeartbeats 400000 in
theorem pick_neg (c n : Int) (w : World) (hc : -9223372036854775808 ≤ c) (hn : 0 < n) (h : c < 0) :
    Calls Tryd.prog 11 #[.int .i64 c, .int .i64 n] w fun e w' => e = .returned (.int .i64 (-(c + 1) % n)) ∧ w' = w := by
  go_enter Tryd.func11, Tryd.ntmps11
  go_wp2
  go_ret
  have e1 : -((c + 1).tmod n) = -(c + 1) % n := by rw [← Int.neg_tmod, Int.tmod_eq_emod_of_nonneg (by omega)]
  exact ⟨congrArg (fun x => Ending.returned (.int .i64 x)) e1, rfl⟩
set_option maxHeartbeats 400000 in
theorem pick_pos (c n : Int) (w : World) (hc : c ≤ 9223372036854775807) (hn : 0 < n) (h : 0 ≤ c) :
    Calls Tryd.prog 11 #[.int .i64 c, .int .i64 n] w fun e w' => e = .returned (.int .i64 (c % n)) ∧ w' = w := by
  go_enter Tryd.func11, Tryd.ntmps11
  go_wp2
  go_ret
  exact ⟨rfl, rfl⟩
theorem pick_any (c n : Int) (w : World) (hc : -9223372036854775808 ≤ c) (hc2 : c ≤ 9223372036854775807) (hn : 0 < n) :
    Calls Tryd.prog 11 #[.int .i64 c, .int .i64 n] w fun e w' => e = .returned (.int .i64 (pickI c n)) ∧ w' = w := by
  unfold pickI
  by_cases h : c < 0
  · rw [if_pos h]; exact pick_neg c n w hc hn h
  · rw [if_neg h]; exact pick_pos c n w hc2 hn (by omega)

set_option maxHeartbeats 400000 in
theorem parts_ok (n : Int) (w : World) (h0 : 0 ≤ n) (h1 : n < 9223372036854775808) :
    Calls Tryd.prog 18 #[.int .u64 n] w fun e w' => e = .returned (.tuple #[.agg #[.int .i64 (n / 4194304), .int .i64 (n / 4096 % 1024), .int .i64 (n % 4096)], .int .i64 0]) ∧ Below w.heap.size w w' := by
  go_enter Tryd.func18, Tryd.ntmps18
  go_wp2_with (first | (go_at_call 19; refine (is_any _ _).mono ?_; rintro e w' ⟨rfl, rfl⟩) | (go_at_call 33; refine (split_any _ _ h0 h1).mono ?_; rintro e w1 ⟨rfl, hb⟩; obtain ⟨hc, hf⟩ := bcell hb))
  refine bodyPost_ret (v := .tuple #[.agg #[.int .i64 (n / 4194304), .int .i64 (n / 4096 % 1024), .int .i64 (n % 4096)], .int .i64 0]) (by simp [results, Tryd.results18, go_sem, hc]) rfl ⟨rfl, ?_⟩
  exact (((((Below.refl _ w).alloc (Nat.le_refl _) _).trans (hb.mono (by simp))).setCell (Nat.le_refl _) _).setCell (Nat.le_refl _) _).setCell (Nat.le_refl _) _

set_option maxHeartbeats 400000 in
theorem range_ok (f t : Int) (w : World) (h0 : 0 ≤ f) (h1 : f ≤ t) (h2 : t ≤ 2199023255552) :
    Calls Tryd.prog 43 #[.int .i64 f, .int .i64 t] w fun e w' => e = .returned (.tuple #[.int .u64 (f * 4194304), .int .u64 (t * 4194304), .int .i64 0]) ∧ w' = w := by
  go_enter Tryd.func43, Tryd.ntmps43
  go_wp2_with (first | (go_at_call 75; refine (first_any _ _ (by omega) (by omega)).mono ?_; rintro e w' ⟨rfl, rfl⟩))
  go_ret3
  exact ⟨rfl, rfl⟩

set_option maxHeartbeats 400000 in
theorem range_no (f t : Int) (w : World) (h : f < 0 ∨ t < f ∨ 2199023255552 < t) :
    Calls Tryd.prog 43 #[.int .i64 f, .int .i64 t] w fun e w' => e = .returned (.tuple #[.int .u64 0, .int .u64 0, .int .i64 1]) ∧ w' = w := by
  by_cases h1 : f < 0
  · go_enter Tryd.func43, Tryd.ntmps43
    go_wp2
    go_ret3
    exact ⟨rfl, rfl⟩
  · by_cases h2 : t < f
    · go_enter Tryd.func43, Tryd.ntmps43
      go_wp2
      go_ret3
      exact ⟨rfl, rfl⟩
    · have h3 : 2199023255552 < t := by omega
      go_enter Tryd.func43, Tryd.ntmps43
      go_wp2
      go_ret3
      exact ⟨rfl, rfl⟩

end Go.Proofs.YtdplffhieekfaaaDoor
