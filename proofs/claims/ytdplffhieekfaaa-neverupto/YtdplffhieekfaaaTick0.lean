/-
  stampskeep's fleet: a tick of no kind.
-/
import Derived.Test.YtdplffhieekfaaaTick4
namespace Go.Proofs.Ytdplffhieekfaaa
open Go.RowKit Go.Maps Go.Lib

set_option maxRecDepth 100000 in
set_option maxHeartbeats 4000000 in
theorem tick0 {B : Nat} {W0 W : World} {X t : Nat} (h : FleetInv B W0 W X t) (c A Bv : Int) (n1 : c ≠ 1) (n2 : c ≠ 2) (n3 : c ≠ 3) (n4 : c ≠ 4) (a1 : -9223372036854775808 ≤ A) (a2 : A ≤ 9223372036854775807) :
    Calls Try.prog 19 #[.pointer (some ⟨X, 0, none⟩), .agg #[.int .i64 c, .int .i64 A, .int .i64 Bv]] W fun e w' => e = .returned (.bool true) ∧ FleetInv B W0 w' X (t + 1) := by
  have e1 : (c == 1) = false := by simpa using n1
  have e2 : (c == 2) = false := by simpa using n2
  have e3 : (c == 3) = false := by simpa using n3
  have e4 : (c == 4) = false := by simpa using n4
  clear n1 n2 n3 n4
  obtain ⟨F, rs, d, bot, all, rfl, hA, hO, htop, hl0, h400, hrs, hs1, hs2, hbel⟩ := h.ex
  obtain ⟨k, hkp, hk⟩ : ∃ k : Nat, pickI A 6 = (k : Int) ∧ k < 6 := by
    have := pickI_bounds A 6 (by omega)
    exact ⟨(pickI A 6).toNat, by omega, by omega⟩
  have hk1 := fun w => pick_any A 6 w a1 a2 (by omega)
  rw [hkp] at hk1
  obtain ⟨W1, hW1⟩ : ∃ W1, W1 = W.alloc (.cells #[.int .i64 c, .int .i64 A, .int .i64 Bv] 59) := ⟨_, rfl⟩
  have hA1 : FleetAt B W1 F rs d all := by rw [hW1]; exact hA.below ((Below.refl _ _).alloc (Nat.le_refl _) _)
  have y0 := hA1.but.x0 id
  have d1 := hA1.but.rD id k hk
  have hk6 : (k : Int) < 6 := by omega
  rw [hW1] at y0 d1
  replace hW1 : Hid _ := hW1
  replace hA1 : Hid _ := hA1
  replace hA : Hid _ := hA
  replace hO : Hid _ := hO
  replace htop : Hid _ := htop
  clear h hkp
  go_enter Try.func19, Try.ntmps19
  go_wp2
  go_quiet ((go_at_call 11; exact Calls.quiet_of_same (hk1 _)))
  go_wp2
  go_ret
  refine ⟨rfl, F, rs, d, bot, all, rfl, ?_, hO.out.later, htop.out, hl0, h400, by omega, hs1, hs2, ?_⟩
  · have := hA1.out.below (below_drewN (Below.refl _ _) nq)
    rw [hW1.out] at this
    exact this
  · exact below_drewN (hbel.alloc (by have := hbel.size; have := hA.out.base .own F.X rfl; omega) _) nq
end Go.Proofs.Ytdplffhieekfaaa
