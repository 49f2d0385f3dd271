/-
  stampslaw.pick, and the document's Batch where the count is refused.
  Conditions: none.
-/
import Derived.Test.YtdplffhieekfaaaDoorRefBatch
namespace Go.Proofs.YtdplffhieekfaaaDoor
open Go.RowKit

set_option maxHeartbeats 400000 in
theorem lpick_neg (c n : Int) (w : World) (hc : -9223372036854775808 ≤ c) (hn : 0 < n) (h : c < 0) :
    Calls Tryd.prog 46 #[.int .i64 c, .int .i64 n] w fun e w' => e = .returned (.int .i64 (-(c + 1) % n)) ∧ w' = w := by
  go_enter Tryd.func46, Tryd.ntmps46
  go_wp2
  go_ret
  have e1 : -((c + 1).tmod n) = -(c + 1) % n := by rw [← Int.neg_tmod, Int.tmod_eq_emod_of_nonneg (by omega)]
  exact ⟨congrArg (fun x => Ending.returned (.int .i64 x)) e1, rfl⟩

set_option maxHeartbeats 400000 in
theorem lpick_pos (c n : Int) (w : World) (hc : c ≤ 9223372036854775807) (hn : 0 < n) (h : 0 ≤ c) :
    Calls Tryd.prog 46 #[.int .i64 c, .int .i64 n] w fun e w' => e = .returned (.int .i64 (c % n)) ∧ w' = w := by
  go_enter Tryd.func46, Tryd.ntmps46
  go_wp2
  go_ret
  exact ⟨rfl, rfl⟩

theorem lpick_any (c n : Int) (w : World) (hc : -9223372036854775808 ≤ c) (hc2 : c ≤ 9223372036854775807) (hn : 0 < n) :
    Calls Tryd.prog 46 #[.int .i64 c, .int .i64 n] w fun e w' => e = .returned (.int .i64 (pickI c n)) ∧ w' = w := by
  unfold pickI
  by_cases h : c < 0
  · rw [if_pos h]; exact lpick_neg c n w hc hn h
  · rw [if_neg h]; exact lpick_pos c n w hc2 hn (by omega)

set_option maxHeartbeats 400000 in
theorem rbatch_count (b : Nat) (now cnt : Int) (w : World) (h : cnt < 1 ∨ 10000 < cnt) :
    Calls Tryd.prog 49 #[.pointer (some ⟨b, 0, none⟩), .int .i64 now, .int .i64 cnt] w fun e w' => e = .returned (.tuple #[.slice none 0 0, .int .i64 9]) ∧ w' = w := by
  by_cases h1 : cnt < 1
  · clear h
    go_enter Tryd.func49, Tryd.ntmps49
    go_wp2
    go_ret2
    exact ⟨rfl, rfl⟩
  · have h2 : 10000 < cnt := by omega
    clear h
    go_enter Tryd.func49, Tryd.ntmps49
    go_wp2
    go_ret2
    exact ⟨rfl, rfl⟩
end Go.Proofs.YtdplffhieekfaaaDoor
