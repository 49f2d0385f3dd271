/-
  stampskeep.Any: the walk.
-/
import Derived.Test.YtdplffhieekfaaaOffLease
import Derived.Test.YtdplffhieekfaaaAwake
namespace Go.Proofs.Ytdplffhieekfaaa
open Go.RowKit Go.Maps Go.Lib

/-- Lease, whatever the clock says: a window, or ErrSpent. -/
theorem lease_any {w : World} {b m g cap span : Nat} {rs : List (Nat × Nat)} (h : OfficeAt w b m g cap span rs) (node : Nat) (now : Int) (hn : node < 1024) (h1 : -9223372036854775808 ≤ now) (h2 : now ≤ 9223372036854775807) (hlen : 13 * (rs.length + 1) ≤ 140737488355328) :
    Calls Try.prog 20 #[.pointer (some ⟨b, 0, none⟩), .int .i64 node, .int .i64 now] w fun e w' =>
      (e = .returned (.tuple #[.agg #[.int .i64 0, .int .i64 0, .int .i64 0], .int .i64 7]) ∧ Below w.heap.size w w' ∧ 2199023255552 - (span : Int) < fromOf now (fenceOf rs node)) ∨
      ∃ fr : Nat, (fr : Int) = fromOf now (fenceOf rs node) ∧ fr + span ≤ 2199023255552 ∧ e = .returned (.tuple #[.agg #[.int .i64 node, .int .i64 fr, .int .i64 (fr + span)], .int .i64 0]) ∧ Leased w w' b m g span rs node fr := by
  by_cases hs : 2199023255552 - (span : Int) < fromOf now (fenceOf rs node)
  · exact (lease_spent h node now hn h1 h2 hs).mono fun e w' ⟨he, hb⟩ => Or.inl ⟨he, hb, hs⟩
  · have h0 : 0 ≤ fromOf now (fenceOf rs node) := by unfold fromOf; omega
    obtain ⟨fr, hfr⟩ : ∃ fr : Nat, (fr : Int) = fromOf now (fenceOf rs node) := ⟨(fromOf now (fenceOf rs node)).toNat, Int.toNat_of_nonneg h0⟩
    refine (lease_walk h node fr now hn ?_ (by omega) hlen).mono fun e w' ⟨he, hl⟩ => Or.inr ⟨fr, hfr, by omega, he, hl⟩
    rw [hfr]
    unfold fromOf
    split <;> split at * <;> omega

set_option maxRecDepth 100000 in
set_option maxHeartbeats 2000000 in
theorem any_walk (l : List UInt8) (now : Int) (w : World) (hl : l.length ≤ 140737488351232) (h1 : -9223372036854775808 ≤ now) (h2 : now ≤ 9223372036854775807) :
    Calls Try.prog 8 #[.string (btext l), .int .i64 now] w fun e w' => e = .returned (.bool true) ∧ Below w.heap.size w w' := by
  have hno := fun w => newOffice_any l 10 w (by omega) (by omega) (by omega)
  rw [show ((10 : Nat) : Int) = 10 from rfl] at hno
  go_enter Try.func8, Try.ntmps8
  go_wp2_with fail
  refine (awake_any _).mono ?_
  rintro e w1 ⟨rfl, hb1⟩
  replace hb1 : Hid _ := hb1
  go_wp2_with fail
  refine (hno _).mono ?_
  rintro e w2 ⟨hR, hb2⟩
  replace hb2 : Hid _ := hb2
  rcases hR with ⟨b, m, g, cap, rs, he, hbb, hmm, hgg, hj, hbg, hO⟩ | ⟨he, hn⟩
  rotate_left
  · subst he
    clear hn
    go_wp2
    go_ret
    exact ⟨rfl, hb1.out.trans (hb2.out.mono hb1.out.size)⟩
  · subst he
    have hlen : 13 * (rs.length + 1) ≤ 140737488355328 := by
      have := congrArg List.length hj
      rw [jtext_length, List.length_take] at this
      omega
    have hle := lease_any hO 7 now (by omega) h1 h2 hlen
    have hf0 : Hid (fenceOf rs 7 ≤ 2199023255552) := fence_le hO.good 7
    have hltO : Hid _ := hO.lt
    replace hbb : Hid _ := hbb
    replace hmm : Hid _ := hmm
    replace hgg : Hid _ := hgg
    clear hj hbg hO hno hlen
    rw [show ((10 : Nat) : Int) = 10 from rfl] at hle
    go_wp2_with fail
    refine hle.mono ?_
    rintro e w3 (⟨rfl, hb3, _⟩ | ⟨fr, hfr, hto, rfl, hL⟩)
    · replace hb3 : Hid _ := hb3
      go_wp2
      go_ret
      have e1 := hb1.out.size
      have e2 := hb2.out.size
      exact ⟨rfl, ((hb1.out.trans (hb2.out.mono e1)).trans (hb3.out.mono (by omega))).alloc (Nat.le_trans (by omega) hb3.out.size) _⟩
    · have hfn : now ≤ (fr : Int) := by rw [hfr]; unfold fromOf; omega
      replace hL : Hid _ := hL
      have hto' : (fr : Int) + 10 ≤ 2199023255552 := by omega
      have hfr0 : (0 : Int) ≤ (fr : Int) := by omega
      clear hfr hto hl
      generalize (fr : Int) = F at *
      go_wp2
      all_goals
        go_ret
        have e1 := hb1.out.size
        have e2 := hb2.out.size
        have e3 := hL.out.keep.size
        have x1 := hbb.out
        have x2 := hmm.out
        have x3 := hgg.out
        exact ⟨rfl, ((hb1.out.trans (hb2.out.mono e1)).trans (hL.out.keep.below (by omega) (fun k hk hs => by rcases hs with h | h | h <;> omega))).alloc (by omega) _⟩
end Go.Proofs.Ytdplffhieekfaaa
