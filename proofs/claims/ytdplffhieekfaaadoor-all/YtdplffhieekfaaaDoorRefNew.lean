/-
  NewDesk and Renew: the document's, and the program's Renew.
  Conditions: the desks' cells are known.
-/
import Derived.Test.YtdplffhieekfaaaDoorRefNext
namespace Go.Proofs.YtdplffhieekfaaaDoor
open Go.RowKit

set_option maxHeartbeats 400000 in
theorem rlease_yes (nd f t : Int) (w : World) (h : Lease nd f t) :
    Calls Tryd.prog 76 #[.agg #[.int .i64 nd, .int .i64 f, .int .i64 t]] w fun e w' => e = .returned (.bool true) ∧ Below w.heap.size w w' := by
  obtain ⟨h1, h2, h3, h4, h5⟩ := h
  go_enter Tryd.func76, Tryd.ntmps76
  go_wp2
  go_ret
  exact ⟨rfl, (Below.refl _ _).alloc (Nat.le_refl _) _⟩

set_option maxHeartbeats 400000 in
theorem rlease_no (nd f t : Int) (w : World) (h : ¬ Lease nd f t) :
    Calls Tryd.prog 76 #[.agg #[.int .i64 nd, .int .i64 f, .int .i64 t]] w fun e w' => e = .returned (.bool false) ∧ Below w.heap.size w w' := by
  by_cases h1 : 0 ≤ nd
  · by_cases h2 : nd < 1024
    · by_cases h3 : 0 ≤ f
      · by_cases h4 : f < t
        · have h5 : ¬ t ≤ 2199023255552 := fun h5 => h ⟨h1, h2, h3, h4, h5⟩
          clear h
          go_enter Tryd.func76, Tryd.ntmps76
          go_wp2
          go_ret
          exact ⟨rfl, (Below.refl _ _).alloc (Nat.le_refl _) _⟩
        · clear h
          go_enter Tryd.func76, Tryd.ntmps76
          go_wp2
          go_ret
          exact ⟨rfl, (Below.refl _ _).alloc (Nat.le_refl _) _⟩
      · clear h
        go_enter Tryd.func76, Tryd.ntmps76
        go_wp2
        go_ret
        exact ⟨rfl, (Below.refl _ _).alloc (Nat.le_refl _) _⟩
    · clear h
      go_enter Tryd.func76, Tryd.ntmps76
      go_wp2
      go_ret
      exact ⟨rfl, (Below.refl _ _).alloc (Nat.le_refl _) _⟩
  · clear h
    go_enter Tryd.func76, Tryd.ntmps76
    go_wp2
    go_ret
    exact ⟨rfl, (Below.refl _ _).alloc (Nat.le_refl _) _⟩

theorem ref_fresh (nd f t br : Int) (W : World) (T : TypeId) :
    RefAt (W.alloc (.cells #[.int .i64 nd, .int .i64 f, .int .i64 t, .int .i64 br, .int .i64 (-1), .int .i64 0, .int .i64 0] T)) W.heap.size (newDk nd f t br) := by
  have hc := cell_alloc_new W #[.int .i64 nd, .int .i64 f, .int .i64 t, .int .i64 br, .int .i64 (-1), .int .i64 0, .int .i64 0] T
  exact ⟨(hc 0).1, (hc 1).1, (hc 2).1, (hc 3).1, (hc 4).1, (hc 5).1, (hc 6).1, fun o => (hc o).2⟩

set_option maxHeartbeats 400000 in
theorem rnewDesk_yes (nd f t br : Int) (w : World) (h : Lease nd f t) (b0 : 0 ≤ br) (b1 : br ≤ 1000) :
    Calls Tryd.prog 45 #[.agg #[.int .i64 nd, .int .i64 f, .int .i64 t], .int .i64 br] w fun e w' => ∃ k, w.heap.size ≤ k ∧ k < w'.heap.size ∧ e = .returned (.tuple #[.pointer (some ⟨k, 0, none⟩), .int .i64 0]) ∧
      RefAt w' k (newDk nd f t br) ∧ Below w.heap.size w w' := by
  have hl := fun w => rlease_yes nd f t w h
  go_enter Tryd.func45, Tryd.ntmps45
  go_wp2_with fail
  refine (hl _).mono ?_
  rintro e w1 ⟨rfl, hb⟩
  obtain ⟨hc, hf⟩ := bcell hb
  clear hl
  go_wp2
  go_ret2
  have hsz := hb.size
  simp only [World.size_alloc] at hsz
  refine ⟨w1.heap.size, by omega, by simp, rfl, ref_fresh nd f t br w1 _, ?_⟩
  exact (((Below.refl _ w).alloc (Nat.le_refl _) _).trans (hb.mono (by simp))).alloc (by omega) _

set_option maxHeartbeats 400000 in
theorem rnewDesk_lease (nd f t br : Int) (w : World) (h : ¬ Lease nd f t) :
    Calls Tryd.prog 45 #[.agg #[.int .i64 nd, .int .i64 f, .int .i64 t], .int .i64 br] w fun e w' => e = .returned (.tuple #[.pointer none, .int .i64 4]) ∧ Below w.heap.size w w' := by
  have hl := fun w => rlease_no nd f t w h
  go_enter Tryd.func45, Tryd.ntmps45
  go_wp2_with fail
  refine (hl _).mono ?_
  rintro e w1 ⟨rfl, hb⟩
  obtain ⟨hc, hf⟩ := bcell hb
  clear hl
  go_wp2
  go_ret2
  exact ⟨rfl, ((Below.refl _ w).alloc (Nat.le_refl _) _).trans (hb.mono (by simp))⟩

set_option maxHeartbeats 400000 in
theorem rnewDesk_span (nd f t br : Int) (w : World) (h : Lease nd f t) (hs : br < 0 ∨ 1000 < br) :
    Calls Tryd.prog 45 #[.agg #[.int .i64 nd, .int .i64 f, .int .i64 t], .int .i64 br] w fun e w' => e = .returned (.tuple #[.pointer none, .int .i64 6]) ∧ Below w.heap.size w w' := by
  have hl := fun w => rlease_yes nd f t w h
  by_cases h1 : br < 0
  · clear hs
    go_enter Tryd.func45, Tryd.ntmps45
    go_wp2_with fail
    refine (hl _).mono ?_
    rintro e w1 ⟨rfl, hb⟩
    obtain ⟨hc, hf⟩ := bcell hb
    clear hl
    go_wp2
    go_ret2
    exact ⟨rfl, ((Below.refl _ w).alloc (Nat.le_refl _) _).trans (hb.mono (by simp))⟩
  · have h2 : 1000 < br := by omega
    clear hs
    go_enter Tryd.func45, Tryd.ntmps45
    go_wp2_with fail
    refine (hl _).mono ?_
    rintro e w1 ⟨rfl, hb⟩
    obtain ⟨hc, hf⟩ := bcell hb
    clear hl
    go_wp2
    go_ret2
    exact ⟨rfl, ((Below.refl _ w).alloc (Nat.le_refl _) _).trans (hb.mono (by simp))⟩
end Go.Proofs.YtdplffhieekfaaaDoor
