/-
  isLease and NewDesk, as the document has them.
-/
import Derived.Test.YtdplffhieekfaaaDoorNext
namespace Go.Proofs.YtdplffhieekfaaaDoor
open Go.RowKit Go.Conc

/-- A lease, as the document has it. -/
def Lease (nd f t : Int) : Prop := 0 ≤ nd ∧ nd < 1024 ∧ 0 ≤ f ∧ f < t ∧ t ≤ 2199023255552

set_option maxHeartbeats 400000 in
theorem isLease_yes (nd f t : Int) (w : World) (h : Lease nd f t) :
    Calls Tryd.prog 28 #[.agg #[.int .i64 nd, .int .i64 f, .int .i64 t]] w fun e w' => e = .returned (.bool true) ∧ Below w.heap.size w w' := by
  obtain ⟨h1, h2, h3, h4, h5⟩ := h
  go_enter Tryd.func28, Tryd.ntmps28
  go_wp2
  go_ret
  exact ⟨rfl, (Below.refl _ _).alloc (Nat.le_refl _) _⟩

set_option maxHeartbeats 400000 in
theorem isLease_no (nd f t : Int) (w : World) (h : ¬ Lease nd f t) :
    Calls Tryd.prog 28 #[.agg #[.int .i64 nd, .int .i64 f, .int .i64 t]] w fun e w' => e = .returned (.bool false) ∧ Below w.heap.size w w' := by
  by_cases h1 : 0 ≤ nd
  · by_cases h2 : nd < 1024
    · by_cases h3 : 0 ≤ f
      · by_cases h4 : f < t
        · have h5 : ¬ t ≤ 2199023255552 := fun h5 => h ⟨h1, h2, h3, h4, h5⟩
          clear h
          go_enter Tryd.func28, Tryd.ntmps28
          go_wp2
          go_ret
          exact ⟨rfl, (Below.refl _ _).alloc (Nat.le_refl _) _⟩
        · clear h
          go_enter Tryd.func28, Tryd.ntmps28
          go_wp2
          go_ret
          exact ⟨rfl, (Below.refl _ _).alloc (Nat.le_refl _) _⟩
      · clear h
        go_enter Tryd.func28, Tryd.ntmps28
        go_wp2
        go_ret
        exact ⟨rfl, (Below.refl _ _).alloc (Nat.le_refl _) _⟩
    · clear h
      go_enter Tryd.func28, Tryd.ntmps28
      go_wp2
      go_ret
      exact ⟨rfl, (Below.refl _ _).alloc (Nat.le_refl _) _⟩
  · clear h
    go_enter Tryd.func28, Tryd.ntmps28
    go_wp2
    go_ret
    exact ⟨rfl, (Below.refl _ _).alloc (Nat.le_refl _) _⟩

/-- A desk that has given nothing. -/
def newDk (nd f t br : Int) : Dk := { node := nd, frm := f, to := t, brw := br, time := 0, nxt := 0, given := 0 }

theorem cell_alloc_new (W : World) (cs : Array Value) (T : TypeId) (o : Nat) : (W.alloc (.cells cs T)).cell? ⟨W.heap.size, o, none⟩ = cs[o]? ∧ (W.alloc (.cells cs T)).frozen? ⟨W.heap.size, o, none⟩ = false := by
  have h := heap_alloc_new W (.cells cs T)
  constructor
  · simp only [World.cell?, h]; rfl
  · simp only [World.frozen?, h]; simp

theorem desk_fresh {nd f t br : Int} (h : Lease nd f t) (b0 : 0 ≤ br) (b1 : br ≤ 1000) (W : World) (T : TypeId) :
    DeskAt (W.alloc (.cells #[.int .i64 nd, .int .i64 f, .int .i64 t, .int .i64 br, .int .i64 0, .int .i64 0, .chan none, .int .i64 0] T)) W.heap.size none (newDk nd f t br) := by
  obtain ⟨h1, h2, h3, h4, h5⟩ := h
  have hc := cell_alloc_new W #[.int .i64 nd, .int .i64 f, .int .i64 t, .int .i64 br, .int .i64 0, .int .i64 0, .chan none, .int .i64 0] T
  exact ⟨⟨h1, h2, h3, h4, h5, b0, b1, Int.le_refl _, by show (0 : Int) < _; omega, Int.le_refl _, by show (0 : Int) ≤ _; omega⟩, 0, by omega,
    ⟨(hc 0).1, (hc 1).1, (hc 2).1, (hc 3).1, (hc 4).1, (hc 5).1, (hc 6).1, (hc 7).1, fun o => (hc o).2⟩, rfl, rfl⟩

set_option maxHeartbeats 400000 in
theorem newDesk_yes (nd f t br : Int) (w : World) (h : Lease nd f t) (b0 : 0 ≤ br) (b1 : br ≤ 1000) :
    Calls Tryd.prog 16 #[.agg #[.int .i64 nd, .int .i64 f, .int .i64 t], .int .i64 br] w fun e w' => ∃ k, w.heap.size ≤ k ∧ e = .returned (.tuple #[.pointer (some ⟨k, 0, none⟩), .int .i64 0]) ∧
      DeskAt w' k none (newDk nd f t br) ∧ Below w.heap.size w w' := by
  have hl := fun w => isLease_yes nd f t w h
  go_enter Tryd.func16, Tryd.ntmps16
  go_wp2_with (go_at_call 28; refine (hl _).mono ?_; rintro e w1 ⟨rfl, hb⟩; obtain ⟨hc, hf⟩ := bcell hb)
  go_ret2
  have hsz := hb.size
  simp only [World.size_alloc] at hsz
  refine ⟨w1.heap.size, by omega, rfl, desk_fresh h b0 b1 w1 _, ?_⟩
  exact (((Below.refl _ w).alloc (Nat.le_refl _) _).trans (hb.mono (by simp))).alloc (by omega) _

set_option maxHeartbeats 400000 in
theorem newDesk_lease (nd f t br : Int) (w : World) (h : ¬ Lease nd f t) :
    Calls Tryd.prog 16 #[.agg #[.int .i64 nd, .int .i64 f, .int .i64 t], .int .i64 br] w fun e w' => e = .returned (.tuple #[.pointer none, .int .i64 4]) ∧ Below w.heap.size w w' := by
  have hl := fun w => isLease_no nd f t w h
  go_enter Tryd.func16, Tryd.ntmps16
  go_wp2_with (go_at_call 28; refine (hl _).mono ?_; rintro e w1 ⟨rfl, hb⟩; obtain ⟨hc, hf⟩ := bcell hb)
  go_ret2
  exact ⟨rfl, ((Below.refl _ w).alloc (Nat.le_refl _) _).trans (hb.mono (by simp))⟩

set_option maxHeartbeats 400000 in
theorem newDesk_span (nd f t br : Int) (w : World) (h : Lease nd f t) (hbr : br < 0 ∨ 1000 < br) :
    Calls Tryd.prog 16 #[.agg #[.int .i64 nd, .int .i64 f, .int .i64 t], .int .i64 br] w fun e w' => e = .returned (.tuple #[.pointer none, .int .i64 6]) ∧ Below w.heap.size w w' := by
  have hl := fun w => isLease_yes nd f t w h
  by_cases hb0 : br < 0
  · clear hbr
    go_enter Tryd.func16, Tryd.ntmps16
    go_wp2_with (go_at_call 28; refine (hl _).mono ?_; rintro e w1 ⟨rfl, hb⟩; obtain ⟨hc, hf⟩ := bcell hb)
    go_ret2
    exact ⟨rfl, ((Below.refl _ w).alloc (Nat.le_refl _) _).trans (hb.mono (by simp))⟩
  · have hb1 : 1000 < br := by omega
    clear hbr
    go_enter Tryd.func16, Tryd.ntmps16
    go_wp2_with (go_at_call 28; refine (hl _).mono ?_; rintro e w1 ⟨rfl, hb⟩; obtain ⟨hc, hf⟩ := bcell hb)
    go_ret2
    exact ⟨rfl, ((Below.refl _ w).alloc (Nat.le_refl _) _).trans (hb.mono (by simp))⟩


/-- A desk stays as it is where nothing of its blocks is written. -/
theorem DeskAt.keep {S : Nat → Prop} {w w' : World} {b : Nat} {c : Option Nat} {s : Dk} (h : DeskAt w b c s) (hk : Keep S w w') (hb : ¬ S b) (hc : ∀ j, c = some j → ¬ S j) : DeskAt w' b c s := by
  obtain ⟨ok, made, hm, hcl, hr⟩ := h
  have hbs : b < w.heap.size := block_lt_of_cell hcl.c0
  have hx : ∀ o, w'.cell? ⟨b, o, none⟩ = w.cell? ⟨b, o, none⟩ := fun o => hk.cell (p := ⟨b, o, none⟩) hbs hb
  refine ⟨ok, made, hm, ⟨(hx 0).trans hcl.c0, (hx 1).trans hcl.c1, (hx 2).trans hcl.c2, (hx 3).trans hcl.c3, (hx 4).trans hcl.c4, (hx 5).trans hcl.c5, (hx 6).trans hcl.c6, (hx 7).trans hcl.c7, fun o => (hk.frozen (p := ⟨b, o, none⟩) hbs hb).trans (hcl.fz o)⟩, ?_⟩
  cases c with
  | none => exact hr
  | some k =>
    obtain ⟨buf, sn, rc, h1, h2⟩ := hr
    have hks : k < w.heap.size := by
      rcases Nat.lt_or_ge k w.heap.size with h | h
      · exact h
      · rw [Array.getElem?_eq_none h] at h1; cases h1
    exact ⟨buf, sn, rc, (hk.block k hks (hc k rfl)).trans h1, h2⟩
theorem DeskAt.below {w w' : World} {b : Nat} {c : Option Nat} {s : Dk} (h : DeskAt w b c s) (hk : Below w.heap.size w w') : DeskAt w' b c s :=
  h.keep (Keep.of_below (S := fun _ => False) hk) (fun h => h) (fun _ _ h => h)

end Go.Proofs.YtdplffhieekfaaaDoor
