/-
  Renew: the program's.
  Conditions: the desks' cells are known.
-/
import Derived.Test.YtdplffhieekfaaaNew
namespace Go.Proofs.Ytdplffhieekfaaa
open Go.RowKit

/-- What a call keeps of a block that was there. -/
theorem kept_cell {B : Nat} {w w1 : World} (hb : Below B w w1) {b o : Nat} (h : b < B) {v : Value} (hv : w.cell? ⟨b, o, none⟩ = some v) : w1.cell? ⟨b, o, none⟩ = some v := by
  rw [hb.cell (p := ⟨b, o, none⟩) h, hv]

/-- A desk behind a new lease. -/
def Dk.renew (s : Dk) (f t : Int) : Dk := { s with frm := f, to := t }

theorem below_drewN {B : Nat} {w w' : World} (h : Below B w w') (n : Nat) : Below B w (w'.drewN n) := ⟨h.os, h.tape, h.output, h.size, h.block⟩

set_option maxHeartbeats 1000000 in
theorem renew_lease (b : Nat) (nd f t : Int) (w : World) (h : ¬ Lease nd f t) :
    Calls Try.prog 35 #[.pointer (some ⟨b, 0, none⟩), .agg #[.int .i64 nd, .int .i64 f, .int .i64 t]] w fun e w' => e = .returned (.int .i64 4) ∧ Below w.heap.size w w' := by
  have hl := fun w => isLease_no nd f t w h
  go_enter Try.func35, Try.ntmps35
  go_wp2_with fail
  refine (hl _).mono ?_
  rintro e w1 ⟨rfl, hb⟩
  have hb' : Hid _ := hb
  clear hl hb
  go_wp2
  go_ret
  exact ⟨rfl, ((Below.refl _ w).alloc (Nat.le_refl _) _).trans (hb'.out.mono (by simp))⟩

set_option maxHeartbeats 1000000 in
theorem renew_node (b : Nat) (nd f t nd0 : Int) (w : World) (c0 : w.cell? ⟨b, 0, none⟩ = some (.int .i64 nd0)) (h : Lease nd f t) (hne : nd ≠ nd0) :
    Calls Try.prog 35 #[.pointer (some ⟨b, 0, none⟩), .agg #[.int .i64 nd, .int .i64 f, .int .i64 t]] w fun e w' => e = .returned (.int .i64 3) ∧ Below w.heap.size w w' := by
  have hl := fun w => isLease_yes nd f t w h
  have hbne : (nd != nd0) = true := by simpa using hne
  have hblt : b < w.heap.size := block_lt_of_cell c0
  clear hne h
  go_enter Try.func35, Try.ntmps35
  go_wp2_with fail
  refine (hl _).mono ?_
  rintro e w1 ⟨rfl, hb⟩
  have hb' : Hid _ := hb
  have d0 : w1.cell? ⟨b, 0, none⟩ = some (.int .i64 nd0) := kept_cell hb (by simp; omega) (by rw [World.cell?_alloc_old _ _ _ (by show b ≠ _; omega)]; exact c0)
  have l0 : w1.cell? ⟨w.heap.size, 0, none⟩ = some (.int .i64 nd) := kept_cell hb (by simp) (by rw [(cell_alloc_new w _ _ 0).1]; rfl)
  clear hl hb c0
  go_wp2
  go_quiet (fail)
  go_wp2
  go_ret
  exact ⟨rfl, below_drewN (((Below.refl _ w).alloc (Nat.le_refl _) _).trans (hb'.out.mono (by simp))) _⟩

set_option maxHeartbeats 1000000 in
theorem renew_old (b : Nat) (nd f t to0 : Int) (w : World) (c0 : w.cell? ⟨b, 0, none⟩ = some (.int .i64 nd)) (c2 : w.cell? ⟨b, 2, none⟩ = some (.int .i64 to0)) (h : Lease nd f t) (ho : f < to0) :
    Calls Try.prog 35 #[.pointer (some ⟨b, 0, none⟩), .agg #[.int .i64 nd, .int .i64 f, .int .i64 t]] w fun e w' => e = .returned (.int .i64 5) ∧ Below w.heap.size w w' := by
  have hl := fun w => isLease_yes nd f t w h
  have hblt : b < w.heap.size := block_lt_of_cell c0
  clear h
  go_enter Try.func35, Try.ntmps35
  go_wp2_with fail
  refine (hl _).mono ?_
  rintro e w1 ⟨rfl, hb⟩
  have hb' : Hid _ := hb
  have d0 : w1.cell? ⟨b, 0, none⟩ = some (.int .i64 nd) := kept_cell hb (by simp; omega) (by rw [World.cell?_alloc_old _ _ _ (by show b ≠ _; omega)]; exact c0)
  have d2 : w1.cell? ⟨b, 2, none⟩ = some (.int .i64 to0) := kept_cell hb (by simp; omega) (by rw [World.cell?_alloc_old _ _ _ (by show b ≠ _; omega)]; exact c2)
  have l0 : w1.cell? ⟨w.heap.size, 0, none⟩ = some (.int .i64 nd) := kept_cell hb (by simp) (by rw [(cell_alloc_new w _ _ 0).1]; rfl)
  have l1 : w1.cell? ⟨w.heap.size, 1, none⟩ = some (.int .i64 f) := kept_cell hb (by simp) (by rw [(cell_alloc_new w _ _ 1).1]; rfl)
  clear hl hb c0 c2
  go_wp2
  go_quiet (fail)
  go_wp2
  go_quiet (fail)
  go_wp2
  go_ret
  exact ⟨rfl, below_drewN (below_drewN (((Below.refl _ w).alloc (Nat.le_refl _) _).trans (hb'.out.mono (by simp))) _) _⟩

set_option maxRecDepth 100000 in
set_option maxHeartbeats 1000000 in
theorem renew_yes (b : Nat) (nd f t f0 to0 : Int) (w : World) (c0 : w.cell? ⟨b, 0, none⟩ = some (.int .i64 nd)) (c1 : w.cell? ⟨b, 1, none⟩ = some (.int .i64 f0)) (c2 : w.cell? ⟨b, 2, none⟩ = some (.int .i64 to0)) (fz : ∀ o, w.frozen? ⟨b, o, none⟩ = false) (h : Lease nd f t) (ho : ¬ f < to0) :
    Calls Try.prog 35 #[.pointer (some ⟨b, 0, none⟩), .agg #[.int .i64 nd, .int .i64 f, .int .i64 t]] w fun e w' => e = .returned (.int .i64 0) ∧ ∃ w1, Below w.heap.size w w1 ∧ w' = ((w1.setCell ⟨b, 0, none⟩ (.int .i64 nd)).setCell ⟨b, 1, none⟩ (.int .i64 f)).setCell ⟨b, 2, none⟩ (.int .i64 t) := by
  have hl := fun w => isLease_yes nd f t w h
  have hblt : b < w.heap.size := block_lt_of_cell c0
  clear h
  go_enter Try.func35, Try.ntmps35
  go_wp2_with fail
  refine (hl _).mono ?_
  rintro e w1 ⟨rfl, hb⟩
  have hb' : Hid _ := hb
  have d0 : w1.cell? ⟨b, 0, none⟩ = some (.int .i64 nd) := kept_cell hb (by simp; omega) (by rw [World.cell?_alloc_old _ _ _ (by show b ≠ _; omega)]; exact c0)
  have d1 : w1.cell? ⟨b, 1, none⟩ = some (.int .i64 f0) := kept_cell hb (by simp; omega) (by rw [World.cell?_alloc_old _ _ _ (by show b ≠ _; omega)]; exact c1)
  have d2 : w1.cell? ⟨b, 2, none⟩ = some (.int .i64 to0) := kept_cell hb (by simp; omega) (by rw [World.cell?_alloc_old _ _ _ (by show b ≠ _; omega)]; exact c2)
  have l0 : w1.cell? ⟨w.heap.size, 0, none⟩ = some (.int .i64 nd) := kept_cell hb (by simp) (by rw [(cell_alloc_new w _ _ 0).1]; rfl)
  have l1 : w1.cell? ⟨w.heap.size, 1, none⟩ = some (.int .i64 f) := kept_cell hb (by simp) (by rw [(cell_alloc_new w _ _ 1).1]; rfl)
  have l2 : w1.cell? ⟨w.heap.size, 2, none⟩ = some (.int .i64 t) := kept_cell hb (by simp) (by rw [(cell_alloc_new w _ _ 2).1]; rfl)
  have z : ∀ o, w1.frozen? ⟨b, o, none⟩ = false := fun o => by
    rw [hb.frozen (p := ⟨b, o, none⟩) (by simp; omega), World.frozen?_alloc_old _ _ _ (by show b ≠ _; omega)]; exact fz o
  have z0 := z 0
  have z1 := z 1
  have z2 := z 2
  clear hl hb c0 c1 c2 fz z
  go_wp2
  go_quiet (fail)
  go_wp2
  go_quiet (fail)
  go_wp2
  go_ret
  exact ⟨rfl, _, below_drewN (((Below.refl _ w).alloc (Nat.le_refl _) _).trans (hb'.out.mono (by simp))) _, rfl⟩

/-- Three cells are written. -/
theorem three_cells {w : World} {b : Nat} (x y z : Value) {v0 v1 v2 : Value} (c0 : w.cell? ⟨b, 0, none⟩ = some v0) (c1 : w.cell? ⟨b, 1, none⟩ = some v1) (c2 : w.cell? ⟨b, 2, none⟩ = some v2) :
    (((w.setCell ⟨b, 0, none⟩ x).setCell ⟨b, 1, none⟩ y).setCell ⟨b, 2, none⟩ z).cell? ⟨b, 0, none⟩ = some x ∧ (((w.setCell ⟨b, 0, none⟩ x).setCell ⟨b, 1, none⟩ y).setCell ⟨b, 2, none⟩ z).cell? ⟨b, 1, none⟩ = some y ∧
    (((w.setCell ⟨b, 0, none⟩ x).setCell ⟨b, 1, none⟩ y).setCell ⟨b, 2, none⟩ z).cell? ⟨b, 2, none⟩ = some z ∧ (∀ o, 3 ≤ o → (((w.setCell ⟨b, 0, none⟩ x).setCell ⟨b, 1, none⟩ y).setCell ⟨b, 2, none⟩ z).cell? ⟨b, o, none⟩ = w.cell? ⟨b, o, none⟩) ∧
    (∀ o, (((w.setCell ⟨b, 0, none⟩ x).setCell ⟨b, 1, none⟩ y).setCell ⟨b, 2, none⟩ z).frozen? ⟨b, o, none⟩ = w.frozen? ⟨b, o, none⟩) ∧ Keep (fun i => i = b) w (((w.setCell ⟨b, 0, none⟩ x).setCell ⟨b, 1, none⟩ y).setCell ⟨b, 2, none⟩ z) := by
  have ot : ∀ (W : World) (u : Value) (i j : Nat), i ≠ j → (W.setCell ⟨b, i, none⟩ u).cell? ⟨b, j, none⟩ = W.cell? ⟨b, j, none⟩ := fun W u i j _ => World.cell?_setCell_other _ ⟨b, i, none⟩ ⟨b, j, none⟩ _ (by simp)
  have hk1 := (Keep.refl (fun i => i = b) w).setCell (p := ⟨b, 0, none⟩) (fun _ => rfl) x
  have hk2 := hk1.setCell (p := ⟨b, 1, none⟩) (fun _ => rfl) y
  have hk3 := hk2.setCell (p := ⟨b, 2, none⟩) (fun _ => rfl) z
  refine ⟨?_, ?_, ?_, fun o ho => ?_, fun o => ?_, hk3⟩
  · rw [ot _ _ 2 0 (by omega), ot _ _ 1 0 (by omega), World.cell?_setCell_same _ _ _ c0]
  · rw [ot _ _ 2 1 (by omega), World.cell?_setCell_same _ _ _ ((ot _ _ 0 1 (by omega)).trans c1)]
  · rw [World.cell?_setCell_same _ _ _ ((ot _ _ 1 2 (by omega)).trans ((ot _ _ 0 2 (by omega)).trans c2))]
  · rw [ot _ _ 2 o (by omega), ot _ _ 1 o (by omega), ot _ _ 0 o (by omega)]
  · rw [World.frozen?_setCell, World.frozen?_setCell, World.frozen?_setCell]



/-- What Renew answers. -/
def renewErr (s : Dk) (nd f t : Int) : Int :=
  haveI : Decidable (Lease nd f t) := inferInstanceAs (Decidable (0 ≤ nd ∧ nd < 1024 ∧ 0 ≤ f ∧ f < t ∧ t ≤ 2199023255552))
  if Lease nd f t then (if nd = s.node then (if f < s.to then 5 else 0) else 3) else 4

theorem Dk.Ok.renew {s : Dk} (ok : s.Ok) {f t : Int} (h : Lease s.node f t) : (s.renew f t).Ok := by
  obtain ⟨h1, h2, h3, h4, h5⟩ := h
  exact ⟨ok.n0, ok.n1, h3, h4, h5, ok.b0, ok.b1, ok.m0, ok.m1, ok.x0, ok.x1⟩

theorem DeskAt.renewed {w w1 : World} {b : Nat} {c : Option Nat} {s : Dk} (h : DeskAt w b c s) (hb : Below w.heap.size w w1) {f t : Int} (hl : Lease s.node f t) :
    DeskAt (((w1.setCell ⟨b, 0, none⟩ (.int .i64 s.node)).setCell ⟨b, 1, none⟩ (.int .i64 f)).setCell ⟨b, 2, none⟩ (.int .i64 t)) b c (s.renew f t) ∧
      Keep (fun i => i = b) w (((w1.setCell ⟨b, 0, none⟩ (.int .i64 s.node)).setCell ⟨b, 1, none⟩ (.int .i64 f)).setCell ⟨b, 2, none⟩ (.int .i64 t)) := by
  obtain ⟨ok, made, hm, hc, hr⟩ := h.below hb
  obtain ⟨r0, r1, r2, r3, rf, rk⟩ := three_cells (.int .i64 s.node) (.int .i64 f) (.int .i64 t) hc.c0 hc.c1 hc.c2
  refine ⟨⟨ok.renew hl, made, hm, ⟨r0, r1, r2, (r3 3 (by omega)).trans hc.c3, (r3 4 (by omega)).trans hc.c4, (r3 5 (by omega)).trans hc.c5, (r3 6 (by omega)).trans hc.c6, (r3 7 (by omega)).trans hc.c7, fun o => (rf o).trans (hc.fz o)⟩, ?_⟩, (Keep.of_below hb).trans' rk (fun _ _ h => h)⟩
  cases c with
  | none => exact hr
  | some k =>
    obtain ⟨buf, sn, rc, h1, h2⟩ := hr
    have hbk : b ≠ k := cells_not_chan hc.c0 h1
    have hk : k < w1.heap.size := by
      rcases Nat.lt_or_ge k w1.heap.size with h | h
      · exact h
      · rw [Array.getElem?_eq_none h] at h1; cases h1
    exact ⟨buf, sn, rc, (rk.block k hk (fun e => hbk e.symm)).trans h1, h2⟩

/-- The program's. -/
theorem DeskAt.renew_any {w : World} {b : Nat} {c : Option Nat} {s : Dk} (h : DeskAt w b c s) (nd f t : Int) :
    Calls Try.prog 35 #[.pointer (some ⟨b, 0, none⟩), .agg #[.int .i64 nd, .int .i64 f, .int .i64 t]] w fun e w' => e = .returned (.int .i64 (renewErr s nd f t)) ∧
      DeskAt w' b c (if renewErr s nd f t = 0 then s.renew f t else s) ∧ Keep (fun i => i = b) w w' := by
  obtain ⟨ok, made, hm, hc, hr⟩ := id h
  unfold renewErr
  by_cases hl : Lease nd f t
  · rw [if_pos hl]
    by_cases hn : nd = s.node
    · subst hn
      rw [if_pos rfl]
      by_cases ho : f < s.to
      · rw [if_pos ho]
        refine (renew_old b _ f t s.to w hc.c0 hc.c2 hl ho).mono fun e w' hh => ⟨hh.1, ?_, Keep.of_below hh.2⟩
        rw [if_neg (by omega)]
        exact h.below hh.2
      · rw [if_neg ho]
        refine (renew_yes b _ f t _ s.to w hc.c0 hc.c1 hc.c2 hc.fz hl ho).mono ?_
        rintro e w' ⟨rfl, w1, hb, rfl⟩
        rw [if_pos rfl]
        exact ⟨rfl, h.renewed hb hl⟩
    · rw [if_neg hn]
      refine (renew_node b nd f t _ w hc.c0 hl hn).mono fun e w' hh => ⟨hh.1, ?_, Keep.of_below hh.2⟩
      rw [if_neg (by omega)]
      exact h.below hh.2
  · rw [if_neg hl]
    refine (renew_lease b nd f t w hl).mono fun e w' hh => ⟨hh.1, ?_, Keep.of_below hh.2⟩
    rw [if_neg (by omega)]
    exact h.below hh.2

end Go.Proofs.Ytdplffhieekfaaa
