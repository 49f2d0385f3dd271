/-
  Renew: the program's and the document's.
  Conditions: the desks' cells are known.
-/
import Derived.Test.YtdplffhieekfaaaDoorRefNew
import Derived.Test.YtdplffhieekfaaaDoorLawPlay
namespace Go.Proofs.YtdplffhieekfaaaDoor
open Go.RowKit

/-- A desk behind a new lease. -/
def Dk.renew (s : Dk) (f t : Int) : Dk := { s with frm := f, to := t }

theorem below_drewN {B : Nat} {w w' : World} (h : Below B w w') (n : Nat) : Below B w (w'.drewN n) := ⟨h.os, h.tape, h.output, h.size, h.block⟩

set_option maxHeartbeats 1000000 in
theorem renew_lease (b : Nat) (nd f t : Int) (w : World) (h : ¬ Lease nd f t) :
    Calls Tryd.prog 51 #[.pointer (some ⟨b, 0, none⟩), .agg #[.int .i64 nd, .int .i64 f, .int .i64 t]] w fun e w' => e = .returned (.int .i64 4) ∧ Below w.heap.size w w' := by
  have hl := fun w => isLease_no nd f t w h
  go_enter Tryd.func51, Tryd.ntmps51
  go_wp2_with fail
  refine (hl _).mono ?_
  rintro e w1 ⟨rfl, hb⟩
  have hb' : Hid _ := hb
  clear hl hb
  go_wp2
  go_ret
  exact ⟨rfl, ((Below.refl _ w).alloc (Nat.le_refl _) _).trans (hb'.out.mono (by simp))⟩

set_option maxHeartbeats 1000000 in
theorem renew_node (b : Nat) (nd f t nd0 : Int) (w : World) (c0 : w.cell? ⟨b, 0, none⟩ = some (.int .i64 nd0)) (h : Lease nd f t) (hne : nd ≠ nd0) :
    Calls Tryd.prog 51 #[.pointer (some ⟨b, 0, none⟩), .agg #[.int .i64 nd, .int .i64 f, .int .i64 t]] w fun e w' => e = .returned (.int .i64 3) ∧ Below w.heap.size w w' := by
  have hl := fun w => isLease_yes nd f t w h
  have hbne : (nd != nd0) = true := by simpa using hne
  have hblt : b < w.heap.size := block_lt_of_cell c0
  clear hne h
  go_enter Tryd.func51, Tryd.ntmps51
  go_wp2_with fail
  refine (hl _).mono ?_
  rintro e w1 ⟨rfl, hb⟩
  have hb' : Hid _ := hb
  have d0 : w1.cell? ⟨b, 0, none⟩ = some (.int .i64 nd0) := kept_cell hb (by simp; omega) (by rw [World.cell?_alloc_old _ _ _ (by show b ≠ _; omega)]; exact c0)
  have l0 : w1.cell? ⟨w.heap.size, 0, none⟩ = some (.int .i64 nd) := kept_cell hb (by simp) (by rw [(cell_alloc_new w _ _ 0).1]; rfl)
  clear hl hb c0
  go_wp2
  go_quiet (fail)
  go_wp2
  go_ret
  exact ⟨rfl, below_drewN (((Below.refl _ w).alloc (Nat.le_refl _) _).trans (hb'.out.mono (by simp))) _⟩

set_option maxHeartbeats 1000000 in
theorem renew_old (b : Nat) (nd f t to0 : Int) (w : World) (c0 : w.cell? ⟨b, 0, none⟩ = some (.int .i64 nd)) (c2 : w.cell? ⟨b, 2, none⟩ = some (.int .i64 to0)) (h : Lease nd f t) (ho : f < to0) :
    Calls Tryd.prog 51 #[.pointer (some ⟨b, 0, none⟩), .agg #[.int .i64 nd, .int .i64 f, .int .i64 t]] w fun e w' => e = .returned (.int .i64 5) ∧ Below w.heap.size w w' := by
  have hl := fun w => isLease_yes nd f t w h
  have hblt : b < w.heap.size := block_lt_of_cell c0
  clear h
  go_enter Tryd.func51, Tryd.ntmps51
  go_wp2_with fail
  refine (hl _).mono ?_
  rintro e w1 ⟨rfl, hb⟩
  have hb' : Hid _ := hb
  have d0 : w1.cell? ⟨b, 0, none⟩ = some (.int .i64 nd) := kept_cell hb (by simp; omega) (by rw [World.cell?_alloc_old _ _ _ (by show b ≠ _; omega)]; exact c0)
  have d2 : w1.cell? ⟨b, 2, none⟩ = some (.int .i64 to0) := kept_cell hb (by simp; omega) (by rw [World.cell?_alloc_old _ _ _ (by show b ≠ _; omega)]; exact c2)
  have l0 : w1.cell? ⟨w.heap.size, 0, none⟩ = some (.int .i64 nd) := kept_cell hb (by simp) (by rw [(cell_alloc_new w _ _ 0).1]; rfl)
  have l1 : w1.cell? ⟨w.heap.size, 1, none⟩ = some (.int .i64 f) := kept_cell hb (by simp) (by rw [(cell_alloc_new w _ _ 1).1]; rfl)
  clear hl hb c0 c2
  go_wp2
  go_quiet (fail)
  go_wp2
  go_quiet (fail)
  go_wp2
  go_ret
  exact ⟨rfl, below_drewN (below_drewN (((Below.refl _ w).alloc (Nat.le_refl _) _).trans (hb'.out.mono (by simp))) _) _⟩

set_option maxRecDepth 100000 in
set_option maxHeartbeats 1000000 in
theorem renew_yes (b : Nat) (nd f t f0 to0 : Int) (w : World) (c0 : w.cell? ⟨b, 0, none⟩ = some (.int .i64 nd)) (c1 : w.cell? ⟨b, 1, none⟩ = some (.int .i64 f0)) (c2 : w.cell? ⟨b, 2, none⟩ = some (.int .i64 to0)) (fz : ∀ o, w.frozen? ⟨b, o, none⟩ = false) (h : Lease nd f t) (ho : ¬ f < to0) :
    Calls Tryd.prog 51 #[.pointer (some ⟨b, 0, none⟩), .agg #[.int .i64 nd, .int .i64 f, .int .i64 t]] w fun e w' => e = .returned (.int .i64 0) ∧ ∃ w1, Below w.heap.size w w1 ∧ w' = ((w1.setCell ⟨b, 0, none⟩ (.int .i64 nd)).setCell ⟨b, 1, none⟩ (.int .i64 f)).setCell ⟨b, 2, none⟩ (.int .i64 t) := by
  have hl := fun w => isLease_yes nd f t w h
  have hblt : b < w.heap.size := block_lt_of_cell c0
  clear h
  go_enter Tryd.func51, Tryd.ntmps51
  go_wp2_with fail
  refine (hl _).mono ?_
  rintro e w1 ⟨rfl, hb⟩
  have hb' : Hid _ := hb
  have d0 : w1.cell? ⟨b, 0, none⟩ = some (.int .i64 nd) := kept_cell hb (by simp; omega) (by rw [World.cell?_alloc_old _ _ _ (by show b ≠ _; omega)]; exact c0)
  have d1 : w1.cell? ⟨b, 1, none⟩ = some (.int .i64 f0) := kept_cell hb (by simp; omega) (by rw [World.cell?_alloc_old _ _ _ (by show b ≠ _; omega)]; exact c1)
  have d2 : w1.cell? ⟨b, 2, none⟩ = some (.int .i64 to0) := kept_cell hb (by simp; omega) (by rw [World.cell?_alloc_old _ _ _ (by show b ≠ _; omega)]; exact c2)
  have l0 : w1.cell? ⟨w.heap.size, 0, none⟩ = some (.int .i64 nd) := kept_cell hb (by simp) (by rw [(cell_alloc_new w _ _ 0).1]; rfl)
  have l1 : w1.cell? ⟨w.heap.size, 1, none⟩ = some (.int .i64 f) := kept_cell hb (by simp) (by rw [(cell_alloc_new w _ _ 1).1]; rfl)
  have l2 : w1.cell? ⟨w.heap.size, 2, none⟩ = some (.int .i64 t) := kept_cell hb (by simp) (by rw [(cell_alloc_new w _ _ 2).1]; rfl)
  have z : ∀ o, w1.frozen? ⟨b, o, none⟩ = false := fun o => by
    rw [hb.frozen (p := ⟨b, o, none⟩) (by simp; omega), World.frozen?_alloc_old _ _ _ (by show b ≠ _; omega)]; exact fz o
  have z0 := z 0
  have z1 := z 1
  have z2 := z 2
  clear hl hb c0 c1 c2 fz z
  go_wp2
  go_quiet (fail)
  go_wp2
  go_quiet (fail)
  go_wp2
  go_ret
  exact ⟨rfl, _, below_drewN (((Below.refl _ w).alloc (Nat.le_refl _) _).trans (hb'.out.mono (by simp))) _, rfl⟩

set_option maxHeartbeats 1000000 in
theorem rrenew_lease (b : Nat) (nd f t : Int) (w : World) (h : ¬ Lease nd f t) :
    Calls Tryd.prog 52 #[.pointer (some ⟨b, 0, none⟩), .agg #[.int .i64 nd, .int .i64 f, .int .i64 t]] w fun e w' => e = .returned (.int .i64 4) ∧ Below w.heap.size w w' := by
  have hl := fun w => rlease_no nd f t w h
  go_enter Tryd.func52, Tryd.ntmps52
  go_wp2_with fail
  refine (hl _).mono ?_
  rintro e w1 ⟨rfl, hb⟩
  have hb' : Hid _ := hb
  clear hl hb
  go_wp2
  go_ret
  exact ⟨rfl, ((Below.refl _ w).alloc (Nat.le_refl _) _).trans (hb'.out.mono (by simp))⟩

set_option maxHeartbeats 1000000 in
theorem rrenew_node (b : Nat) (nd f t nd0 : Int) (w : World) (c0 : w.cell? ⟨b, 0, none⟩ = some (.int .i64 nd0)) (h : Lease nd f t) (hne : nd ≠ nd0) :
    Calls Tryd.prog 52 #[.pointer (some ⟨b, 0, none⟩), .agg #[.int .i64 nd, .int .i64 f, .int .i64 t]] w fun e w' => e = .returned (.int .i64 3) ∧ Below w.heap.size w w' := by
  have hl := fun w => rlease_yes nd f t w h
  have hbne : (nd != nd0) = true := by simpa using hne
  have hblt : b < w.heap.size := block_lt_of_cell c0
  clear hne h
  go_enter Tryd.func52, Tryd.ntmps52
  go_wp2_with fail
  refine (hl _).mono ?_
  rintro e w1 ⟨rfl, hb⟩
  have hb' : Hid _ := hb
  have d0 : w1.cell? ⟨b, 0, none⟩ = some (.int .i64 nd0) := kept_cell hb (by simp; omega) (by rw [World.cell?_alloc_old _ _ _ (by show b ≠ _; omega)]; exact c0)
  have l0 : w1.cell? ⟨w.heap.size, 0, none⟩ = some (.int .i64 nd) := kept_cell hb (by simp) (by rw [(cell_alloc_new w _ _ 0).1]; rfl)
  clear hl hb c0
  go_wp2
  go_quiet (fail)
  go_wp2
  go_ret
  exact ⟨rfl, below_drewN (((Below.refl _ w).alloc (Nat.le_refl _) _).trans (hb'.out.mono (by simp))) _⟩

set_option maxHeartbeats 1000000 in
theorem rrenew_old (b : Nat) (nd f t to0 : Int) (w : World) (c0 : w.cell? ⟨b, 0, none⟩ = some (.int .i64 nd)) (c2 : w.cell? ⟨b, 2, none⟩ = some (.int .i64 to0)) (h : Lease nd f t) (ho : f < to0) :
    Calls Tryd.prog 52 #[.pointer (some ⟨b, 0, none⟩), .agg #[.int .i64 nd, .int .i64 f, .int .i64 t]] w fun e w' => e = .returned (.int .i64 5) ∧ Below w.heap.size w w' := by
  have hl := fun w => rlease_yes nd f t w h
  have hblt : b < w.heap.size := block_lt_of_cell c0
  clear h
  go_enter Tryd.func52, Tryd.ntmps52
  go_wp2_with fail
  refine (hl _).mono ?_
  rintro e w1 ⟨rfl, hb⟩
  have hb' : Hid _ := hb
  have d0 : w1.cell? ⟨b, 0, none⟩ = some (.int .i64 nd) := kept_cell hb (by simp; omega) (by rw [World.cell?_alloc_old _ _ _ (by show b ≠ _; omega)]; exact c0)
  have d2 : w1.cell? ⟨b, 2, none⟩ = some (.int .i64 to0) := kept_cell hb (by simp; omega) (by rw [World.cell?_alloc_old _ _ _ (by show b ≠ _; omega)]; exact c2)
  have l0 : w1.cell? ⟨w.heap.size, 0, none⟩ = some (.int .i64 nd) := kept_cell hb (by simp) (by rw [(cell_alloc_new w _ _ 0).1]; rfl)
  have l1 : w1.cell? ⟨w.heap.size, 1, none⟩ = some (.int .i64 f) := kept_cell hb (by simp) (by rw [(cell_alloc_new w _ _ 1).1]; rfl)
  clear hl hb c0 c2
  go_wp2
  go_quiet (fail)
  go_wp2
  go_quiet (fail)
  go_wp2
  go_ret
  exact ⟨rfl, below_drewN (below_drewN (((Below.refl _ w).alloc (Nat.le_refl _) _).trans (hb'.out.mono (by simp))) _) _⟩

set_option maxRecDepth 100000 in
set_option maxHeartbeats 1000000 in
theorem rrenew_yes (b : Nat) (nd f t f0 to0 : Int) (w : World) (c0 : w.cell? ⟨b, 0, none⟩ = some (.int .i64 nd)) (c1 : w.cell? ⟨b, 1, none⟩ = some (.int .i64 f0)) (c2 : w.cell? ⟨b, 2, none⟩ = some (.int .i64 to0)) (fz : ∀ o, w.frozen? ⟨b, o, none⟩ = false) (h : Lease nd f t) (ho : ¬ f < to0) :
    Calls Tryd.prog 52 #[.pointer (some ⟨b, 0, none⟩), .agg #[.int .i64 nd, .int .i64 f, .int .i64 t]] w fun e w' => e = .returned (.int .i64 0) ∧ ∃ w1, Below w.heap.size w w1 ∧ w' = ((w1.setCell ⟨b, 0, none⟩ (.int .i64 nd)).setCell ⟨b, 1, none⟩ (.int .i64 f)).setCell ⟨b, 2, none⟩ (.int .i64 t) := by
  have hl := fun w => rlease_yes nd f t w h
  have hblt : b < w.heap.size := block_lt_of_cell c0
  clear h
  go_enter Tryd.func52, Tryd.ntmps52
  go_wp2_with fail
  refine (hl _).mono ?_
  rintro e w1 ⟨rfl, hb⟩
  have hb' : Hid _ := hb
  have d0 : w1.cell? ⟨b, 0, none⟩ = some (.int .i64 nd) := kept_cell hb (by simp; omega) (by rw [World.cell?_alloc_old _ _ _ (by show b ≠ _; omega)]; exact c0)
  have d1 : w1.cell? ⟨b, 1, none⟩ = some (.int .i64 f0) := kept_cell hb (by simp; omega) (by rw [World.cell?_alloc_old _ _ _ (by show b ≠ _; omega)]; exact c1)
  have d2 : w1.cell? ⟨b, 2, none⟩ = some (.int .i64 to0) := kept_cell hb (by simp; omega) (by rw [World.cell?_alloc_old _ _ _ (by show b ≠ _; omega)]; exact c2)
  have l0 : w1.cell? ⟨w.heap.size, 0, none⟩ = some (.int .i64 nd) := kept_cell hb (by simp) (by rw [(cell_alloc_new w _ _ 0).1]; rfl)
  have l1 : w1.cell? ⟨w.heap.size, 1, none⟩ = some (.int .i64 f) := kept_cell hb (by simp) (by rw [(cell_alloc_new w _ _ 1).1]; rfl)
  have l2 : w1.cell? ⟨w.heap.size, 2, none⟩ = some (.int .i64 t) := kept_cell hb (by simp) (by rw [(cell_alloc_new w _ _ 2).1]; rfl)
  have z : ∀ o, w1.frozen? ⟨b, o, none⟩ = false := fun o => by
    rw [hb.frozen (p := ⟨b, o, none⟩) (by simp; omega), World.frozen?_alloc_old _ _ _ (by show b ≠ _; omega)]; exact fz o
  have z0 := z 0
  have z1 := z 1
  have z2 := z 2
  clear hl hb c0 c1 c2 fz z
  go_wp2
  go_quiet (fail)
  go_wp2
  go_quiet (fail)
  go_wp2
  go_ret
  exact ⟨rfl, _, below_drewN (((Below.refl _ w).alloc (Nat.le_refl _) _).trans (hb'.out.mono (by simp))) _, rfl⟩


/-- Three cells are written. -/
theorem three_cells {w : World} {b : Nat} (x y z : Value) {v0 v1 v2 : Value} (c0 : w.cell? ⟨b, 0, none⟩ = some v0) (c1 : w.cell? ⟨b, 1, none⟩ = some v1) (c2 : w.cell? ⟨b, 2, none⟩ = some v2) :
    (((w.setCell ⟨b, 0, none⟩ x).setCell ⟨b, 1, none⟩ y).setCell ⟨b, 2, none⟩ z).cell? ⟨b, 0, none⟩ = some x ∧ (((w.setCell ⟨b, 0, none⟩ x).setCell ⟨b, 1, none⟩ y).setCell ⟨b, 2, none⟩ z).cell? ⟨b, 1, none⟩ = some y ∧
    (((w.setCell ⟨b, 0, none⟩ x).setCell ⟨b, 1, none⟩ y).setCell ⟨b, 2, none⟩ z).cell? ⟨b, 2, none⟩ = some z ∧ (∀ o, 3 ≤ o → (((w.setCell ⟨b, 0, none⟩ x).setCell ⟨b, 1, none⟩ y).setCell ⟨b, 2, none⟩ z).cell? ⟨b, o, none⟩ = w.cell? ⟨b, o, none⟩) ∧
    (∀ o, (((w.setCell ⟨b, 0, none⟩ x).setCell ⟨b, 1, none⟩ y).setCell ⟨b, 2, none⟩ z).frozen? ⟨b, o, none⟩ = w.frozen? ⟨b, o, none⟩) ∧ Keep (fun i => i = b) w (((w.setCell ⟨b, 0, none⟩ x).setCell ⟨b, 1, none⟩ y).setCell ⟨b, 2, none⟩ z) := by
  have ot : ∀ (W : World) (u : Value) (i j : Nat), i ≠ j → (W.setCell ⟨b, i, none⟩ u).cell? ⟨b, j, none⟩ = W.cell? ⟨b, j, none⟩ := fun W u i j _ => World.cell?_setCell_other _ ⟨b, i, none⟩ ⟨b, j, none⟩ _ (by simp)
  have hk1 := (Keep.refl (fun i => i = b) w).setCell (p := ⟨b, 0, none⟩) (fun _ => rfl) x
  have hk2 := hk1.setCell (p := ⟨b, 1, none⟩) (fun _ => rfl) y
  have hk3 := hk2.setCell (p := ⟨b, 2, none⟩) (fun _ => rfl) z
  refine ⟨?_, ?_, ?_, fun o ho => ?_, fun o => ?_, hk3⟩
  · rw [ot _ _ 2 0 (by omega), ot _ _ 1 0 (by omega), World.cell?_setCell_same _ _ _ c0]
  · rw [ot _ _ 2 1 (by omega), World.cell?_setCell_same _ _ _ ((ot _ _ 0 1 (by omega)).trans c1)]
  · rw [World.cell?_setCell_same _ _ _ ((ot _ _ 1 2 (by omega)).trans ((ot _ _ 0 2 (by omega)).trans c2))]
  · rw [ot _ _ 2 o (by omega), ot _ _ 1 o (by omega), ot _ _ 0 o (by omega)]
  · rw [World.frozen?_setCell, World.frozen?_setCell, World.frozen?_setCell]

end Go.Proofs.YtdplffhieekfaaaDoor
