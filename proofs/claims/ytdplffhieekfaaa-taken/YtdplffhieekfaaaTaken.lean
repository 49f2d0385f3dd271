/-
  The walk of stampskeep.Taken: it answers true, and nothing of what was there has turned.
-/
import Derived.Test.YtdplffhieekfaaaAwake
namespace Go.Proofs.Ytdplffhieekfaaa
open Go.RowKit Go.Conc

set_option maxHeartbeats 1000000 in
theorem taken_walk (a0 a1 a2 : Int) (h00 : 0 ≤ a0) (h01 : a0 ≤ 18446744073709551615) (h10 : -9223372036854775808 ≤ a1) (h11 : a1 ≤ 9223372036854775807) (h20 : -9223372036854775808 ≤ a2) (h21 : a2 ≤ 9223372036854775807) (w : World) :
    Calls Try.prog 3 #[.int .u64 a0, .int .i64 a1, .int .i64 a2] w fun e w' => e = .returned (.bool true) ∧ Below w.heap.size w w' := by
  have hp := fun w => parts_ok (a0 / 2) w (by omega) (by omega)
  obtain ⟨T, hT⟩ : ∃ T, T = a0 / 2 / 4194304 := ⟨_, rfl⟩
  obtain ⟨N, hN⟩ : ∃ N, N = a0 / 2 / 4096 % 1024 := ⟨_, rfl⟩
  obtain ⟨S, hS⟩ : ∃ S, S = a0 / 2 % 4096 := ⟨_, rfl⟩
  rw [← hT, ← hN, ← hS] at hp
  have T0 : 0 ≤ T := by omega
  have T1 : T < 2199023255552 := by omega
  have N0 : 0 ≤ N := by omega
  have N1 : N < 1024 := by omega
  have S0 : 0 ≤ S := by omega
  have S1 : S < 4096 := by omega
  have hback : Hid (T * 4194304 + N * 4096 + S = a0 / 2) := by show _ = _; omega
  have hT' : Hid (T = a0 / 2 / 4194304) := hT
  clear hT hN hS
  obtain ⟨f, hf⟩ : ∃ f, f = pickI a1 2199023255553 := ⟨_, rfl⟩
  have hf1 := fun w => pick_any a1 2199023255553 w h10 h11 (by omega)
  rw [← hf] at hf1
  have f0 : 0 ≤ f ∧ f ≤ 2199023255552 := by have := pickI_bounds a1 2199023255553 (by omega); omega
  obtain ⟨f0, f1⟩ := f0
  clear hf
  obtain ⟨d, hd⟩ : ∃ d, d = pickI a2 (2199023255553 - f) := ⟨_, rfl⟩
  have hd1 := fun w => pick_any a2 (2199023255553 - f) w h20 h21 (by omega)
  rw [← hd] at hd1
  have d0 : 0 ≤ d ∧ d ≤ 2199023255552 - f := by have := pickI_bounds a2 (2199023255553 - f) (by omega); omega
  obtain ⟨d0, d1⟩ := d0
  clear hd
  have hr1 := fun w => range_ok f (f + d) w f0 (by omega) (by omega)
  have hr2 := fun w => range_no (f + d + 1) (f + d) w (by omega)
  go_enter Try.func3, Try.ntmps3
  go_wp2_with fail
  refine (awake_any _).mono ?_
  rintro e w1 ⟨rfl, hb1⟩
  have hb1' : Hid _ := hb1
  clear hb1
  go_wp2_with fail
  refine (hp _).mono ?_
  rintro e w2 ⟨rfl, hb2⟩
  have hb2' : Hid _ := hb2
  clear hb2 hp
  go_wp2_with fail
  refine (hf1 _).mono ?_
  rintro e w3 ⟨rfl, rfl⟩
  clear hf1
  go_wp2_with fail
  refine (hd1 _).mono ?_
  rintro e w3 ⟨rfl, rfl⟩
  clear hd1
  go_wp2_with fail
  refine (hr1 _).mono ?_
  rintro e w3 ⟨rfl, rfl⟩
  clear hr1
  go_wp2_with fail
  refine (hr2 _).mono ?_
  rintro e w3 ⟨rfl, rfl⟩
  clear hr2
  have heq : Hid ((decide (a0 / 2 < (f + d) * 4194304) == decide (T < f + d)) = true) := by
    show _ = _
    have hb := hback.out
    rw [beq_iff_eq, decide_eq_decide]
    omega
  have hbel : Hid (Below w.heap.size w (w2.alloc (.cells #[.int .i64 T, .int .i64 N, .int .i64 S] 26))) := by
    have h1 := hb1'.out
    have h2 := hb2'.out
    have s1 := h1.size
    have s2 := h2.size
    exact (h1.trans (h2.mono s1)).alloc (by omega) _
  clear hT'
  go_wp2
  all_goals
    go_ret
    refine ⟨?_, hbel.out⟩
    first
      | rfl
      | exact congrArg (fun x => Ending.returned (.bool x)) heq.out
end Go.Proofs.Ytdplffhieekfaaa
