/-
  The document's desk: Next, as it keeps step with the program's data.
  Conditions: the desk's cells are known.
-/
import Derived.Test.YtdplffhieekfaaaDoorRefDesk
namespace Go.Proofs.YtdplffhieekfaaaDoor
open Go.RowKit

theorem rTime_bounds {s : Dk} (ok : s.Ok) : -1 ≤ rTime s ∧ rTime s < 2199023255552 ∧ 0 ≤ rSeq s ∧ rSeq s ≤ 4095 := by
  have m0 := ok.m0
  have m1 := ok.m1
  have x0 := ok.x0
  have x1 := ok.x1
  unfold rTime rSeq
  split <;> omega

theorem RefAt.next_no {w : World} {b : Nat} {s : Dk} (h : RefAt w b s) (ok : s.Ok) (hf : s.Fresh) (now : Int) (n0 : -9223372036854775808 ≤ now) (n1 : now ≤ 9223372036854775807) (he : errOf s now ≠ 0) :
    Calls Tryd.prog 47 #[.pointer (some ⟨b, 0, none⟩), .int .i64 now] w fun e w' => e = .returned (.tuple #[.int .u64 0, .int .i64 (errOf s now)]) ∧ w' = w := by
  obtain ⟨T0, T1, Q0, Q1⟩ := rTime_bounds ok
  have f1 : s.frm < 2199023255552 := by have := ok.ft; have := ok.t1; omega
  have ht := (timeOf_ref ok hf now).1
  unfold topOf at ht
  by_cases h7 : s.to ≤ timeOf s now
  · rw [show errOf s now = 7 by unfold errOf; rw [if_pos h7]]
    by_cases a1 : now < s.frm
    · simp only [if_pos a1] at ht
      by_cases a2 : s.frm ≤ rTime s
      · rw [if_pos a2] at ht
        by_cases a3 : rSeq s = 4095
        · rw [if_pos a3] at ht
          exact rnext_no7_0 b _ _ _ _ _ _ _ now w h.c0 h.c1 h.c2 h.c3 h.c4 h.c5 h.c6 ok.f0 f1 ok.t1 ok.b0 ok.b1 T0 T1 n0 n1 a1 a2 a3 (by omega)
        · rw [if_neg a3] at ht
          exact rnext_no7_1 b _ _ _ _ _ _ _ now w h.c0 h.c1 h.c2 h.c3 h.c4 h.c5 h.c6 ok.f0 f1 ok.t1 ok.b0 ok.b1 T0 T1 n0 n1 a1 a2 a3 (by omega)
      · rw [if_neg a2] at ht
        exact rnext_no7_2 b _ _ _ _ _ _ _ now w h.c0 h.c1 h.c2 h.c3 h.c4 h.c5 h.c6 ok.f0 f1 ok.t1 ok.b0 ok.b1 T0 T1 n0 n1 a1 a2 (by omega)
    · simp only [if_neg a1] at ht
      by_cases a2 : now ≤ rTime s
      · rw [if_pos a2] at ht
        by_cases a3 : rSeq s = 4095
        · rw [if_pos a3] at ht
          exact rnext_no7_3 b _ _ _ _ _ _ _ now w h.c0 h.c1 h.c2 h.c3 h.c4 h.c5 h.c6 ok.f0 f1 ok.t1 ok.b0 ok.b1 T0 T1 n0 n1 a1 a2 a3 (by omega)
        · rw [if_neg a3] at ht
          exact rnext_no7_4 b _ _ _ _ _ _ _ now w h.c0 h.c1 h.c2 h.c3 h.c4 h.c5 h.c6 ok.f0 f1 ok.t1 ok.b0 ok.b1 T0 T1 n0 n1 a1 a2 a3 (by omega)
      · rw [if_neg a2] at ht
        exact rnext_no7_5 b _ _ _ _ _ _ _ now w h.c0 h.c1 h.c2 h.c3 h.c4 h.c5 h.c6 ok.f0 f1 ok.t1 ok.b0 ok.b1 T0 T1 n0 n1 a1 a2 (by omega)
  · have h8 : now + s.brw < timeOf s now := by
      unfold errOf at he
      rw [if_neg h7] at he
      by_cases hx : now + s.brw < timeOf s now
      · exact hx
      · rw [if_neg hx] at he; exact absurd rfl he
    rw [show errOf s now = 8 by unfold errOf; rw [if_neg h7, if_pos h8]]
    by_cases a1 : now < s.frm
    · simp only [if_pos a1] at ht
      by_cases a2 : s.frm ≤ rTime s
      · rw [if_pos a2] at ht
        by_cases a3 : rSeq s = 4095
        · rw [if_pos a3] at ht
          exact rnext_no8_0 b _ _ _ _ _ _ _ now w h.c0 h.c1 h.c2 h.c3 h.c4 h.c5 h.c6 ok.f0 f1 ok.t1 ok.b0 ok.b1 T0 T1 n0 n1 a1 a2 a3 (by omega) (by omega)
        · rw [if_neg a3] at ht
          exact rnext_no8_1 b _ _ _ _ _ _ _ now w h.c0 h.c1 h.c2 h.c3 h.c4 h.c5 h.c6 ok.f0 f1 ok.t1 ok.b0 ok.b1 T0 T1 n0 n1 a1 a2 a3 (by omega) (by omega)
      · rw [if_neg a2] at ht
        exact rnext_no8_2 b _ _ _ _ _ _ _ now w h.c0 h.c1 h.c2 h.c3 h.c4 h.c5 h.c6 ok.f0 f1 ok.t1 ok.b0 ok.b1 T0 T1 n0 n1 a1 a2 (by omega) (by omega)
    · simp only [if_neg a1] at ht
      by_cases a2 : now ≤ rTime s
      · rw [if_pos a2] at ht
        by_cases a3 : rSeq s = 4095
        · rw [if_pos a3] at ht
          exact rnext_no8_3 b _ _ _ _ _ _ _ now w h.c0 h.c1 h.c2 h.c3 h.c4 h.c5 h.c6 ok.f0 f1 ok.t1 ok.b0 ok.b1 T0 T1 n0 n1 a1 a2 a3 (by omega) (by omega)
        · rw [if_neg a3] at ht
          exact rnext_no8_4 b _ _ _ _ _ _ _ now w h.c0 h.c1 h.c2 h.c3 h.c4 h.c5 h.c6 ok.f0 f1 ok.t1 ok.b0 ok.b1 T0 T1 n0 n1 a1 a2 a3 (by omega) (by omega)
      · rw [if_neg a2] at ht
        exact rnext_no8_5 b _ _ _ _ _ _ _ now w h.c0 h.c1 h.c2 h.c3 h.c4 h.c5 h.c6 ok.f0 f1 ok.t1 ok.b0 ok.b1 T0 T1 n0 n1 a1 a2 (by omega) (by omega)

/-- The three cells are written. -/
theorem RefAt.stepped {w : World} {b : Nat} {s : Dk} (h : RefAt w b s) (t q g : Int) (s' : Dk) (e0 : s'.node = s.node) (e1 : s'.frm = s.frm) (e2 : s'.to = s.to) (e3 : s'.brw = s.brw) (e4 : rTime s' = t) (e5 : rSeq s' = q) (e6 : s'.given = g) (n : Nat) :
    RefAt ((((w.setCell ⟨b, 4, none⟩ (.int .i64 t)).setCell ⟨b, 5, none⟩ (.int .i64 q)).setCell ⟨b, 6, none⟩ (.int .i64 g)).drewN n) b s' ∧
      Keep (fun i => i = b) w ((((w.setCell ⟨b, 4, none⟩ (.int .i64 t)).setCell ⟨b, 5, none⟩ (.int .i64 q)).setCell ⟨b, 6, none⟩ (.int .i64 g)).drewN n) := by
  have o6 : ∀ (W : World) (u : Value) (i j : Nat), i ≠ j → (W.setCell ⟨b, i, none⟩ u).cell? ⟨b, j, none⟩ = W.cell? ⟨b, j, none⟩ := fun W u i j _ => World.cell?_setCell_other _ ⟨b, i, none⟩ ⟨b, j, none⟩ _ (by simp)
  have hk1 := (Keep.refl (fun i => i = b) w).setCell (p := ⟨b, 4, none⟩) (fun _ => rfl) (.int .i64 t)
  have hk2 := hk1.setCell (p := ⟨b, 5, none⟩) (fun _ => rfl) (.int .i64 q)
  have hkeep := hk2.setCell (p := ⟨b, 6, none⟩) (fun _ => rfl) (.int .i64 g)
  have key : ∀ j, j ≠ 4 → j ≠ 5 → j ≠ 6 → ((((w.setCell ⟨b, 4, none⟩ (.int .i64 t)).setCell ⟨b, 5, none⟩ (.int .i64 q)).setCell ⟨b, 6, none⟩ (.int .i64 g)).drewN n).cell? ⟨b, j, none⟩ = w.cell? ⟨b, j, none⟩ := fun j h4 h5 h6 => by
    show (((w.setCell ⟨b, 4, none⟩ (.int .i64 t)).setCell ⟨b, 5, none⟩ (.int .i64 q)).setCell ⟨b, 6, none⟩ (.int .i64 g)).cell? ⟨b, j, none⟩ = _
    rw [o6 _ _ 6 j (by omega), o6 _ _ 5 j (by omega), o6 _ _ 4 j (by omega)]
  refine ⟨⟨?_, ?_, ?_, ?_, ?_, ?_, ?_, fun o => ?_⟩, hkeep.drewN n⟩
  · rw [key 0 (by omega) (by omega) (by omega), h.c0, e0]
  · rw [key 1 (by omega) (by omega) (by omega), h.c1, e1]
  · rw [key 2 (by omega) (by omega) (by omega), h.c2, e2]
  · rw [key 3 (by omega) (by omega) (by omega), h.c3, e3]
  · show (((w.setCell ⟨b, 4, none⟩ (.int .i64 t)).setCell ⟨b, 5, none⟩ (.int .i64 q)).setCell ⟨b, 6, none⟩ (.int .i64 g)).cell? ⟨b, 4, none⟩ = _
    rw [o6 _ _ 6 4 (by omega), o6 _ _ 5 4 (by omega), World.cell?_setCell_same _ _ _ h.c4, e4]
  · show (((w.setCell ⟨b, 4, none⟩ (.int .i64 t)).setCell ⟨b, 5, none⟩ (.int .i64 q)).setCell ⟨b, 6, none⟩ (.int .i64 g)).cell? ⟨b, 5, none⟩ = _
    rw [o6 _ _ 6 5 (by omega), World.cell?_setCell_same _ _ _ ((o6 _ _ 4 5 (by omega)).trans h.c5), e5]
  · show (((w.setCell ⟨b, 4, none⟩ (.int .i64 t)).setCell ⟨b, 5, none⟩ (.int .i64 q)).setCell ⟨b, 6, none⟩ (.int .i64 g)).cell? ⟨b, 6, none⟩ = _
    rw [World.cell?_setCell_same _ _ _ ((o6 _ _ 5 6 (by omega)).trans ((o6 _ _ 4 6 (by omega)).trans h.c6)), e6]
  · show (((w.setCell ⟨b, 4, none⟩ (.int .i64 t)).setCell ⟨b, 5, none⟩ (.int .i64 q)).setCell ⟨b, 6, none⟩ (.int .i64 g)).frozen? ⟨b, o, none⟩ = false
    rw [World.frozen?_setCell, World.frozen?_setCell, World.frozen?_setCell]; exact h.fz o

theorem RefAt.next_yes {w : World} {b : Nat} {s : Dk} (h : RefAt w b s) (ok : s.Ok) (hf : s.Fresh) (now : Int) (n0 : -9223372036854775808 ≤ now) (n1 : now ≤ 9223372036854775807) (he : errOf s now = 0) (g0 : 0 ≤ s.given) (g1 : s.given < 9223372036854775807) :
    Calls Tryd.prog 47 #[.pointer (some ⟨b, 0, none⟩), .int .i64 now] w fun e w' => e = .returned (.tuple #[.int .u64 (numOf (timeOf s now) s.node (seqOf s (timeOf s now))), .int .i64 0]) ∧ RefAt w' b (s.step now) ∧ Keep (fun i => i = b) w w' := by
  obtain ⟨T0, T1, Q0, Q1⟩ := rTime_bounds ok
  have f1 : s.frm < 2199023255552 := by have := ok.ft; have := ok.t1; omega
  obtain ⟨ht, hq⟩ := timeOf_ref ok hf now
  have h7 : timeOf s now < s.to ∧ timeOf s now ≤ now + s.brw := by
    unfold errOf at he
    by_cases hx : s.to ≤ timeOf s now
    · rw [if_pos hx] at he; omega
    · rw [if_neg hx] at he
      by_cases hy : now + s.brw < timeOf s now
      · rw [if_pos hy] at he; omega
      · omega
  have hsq := seqOf_lt ok now
  have fin : ∀ (t q : Int), timeOf s now = t → seqOf s (timeOf s now) = q → ∀ e w', (e = Ending.returned (.tuple #[.int .u64 (numOf t s.node q), .int .i64 0]) ∧ ∃ n, w' = (((w.setCell ⟨b, 4, none⟩ (.int .i64 t)).setCell ⟨b, 5, none⟩ (.int .i64 q)).setCell ⟨b, 6, none⟩ (.int .i64 (s.given + 1))).drewN n) →
      (e = .returned (.tuple #[.int .u64 (numOf (timeOf s now) s.node (seqOf s (timeOf s now))), .int .i64 0]) ∧ RefAt w' b (s.step now) ∧ Keep (fun i => i = b) w w') := by
    rintro t q e1 e2 e w' ⟨rfl, n, rfl⟩
    refine ⟨by rw [e1, ← e2, e1], ?_⟩
    have hn : (s.step now).nxt ≠ 0 := by show seqOf s (timeOf s now) + 1 ≠ 0; omega
    exact h.stepped t q (s.given + 1) (s.step now) rfl rfl rfl rfl (by unfold rTime; rw [if_neg hn]; exact e1) (by unfold rSeq; rw [if_neg hn]; show seqOf s (timeOf s now) + 1 - 1 = q; omega) rfl n
  unfold topOf at ht
  by_cases a1 : now < s.frm
  · simp only [if_pos a1] at ht
    by_cases a2 : s.frm ≤ rTime s
    · rw [if_pos a2] at ht
      by_cases a3 : rSeq s = 4095
      · rw [if_pos a3] at ht
        exact (rnext_yes_0 b _ _ _ _ _ _ _ now w h.c0 h.c1 h.c2 h.c3 h.c4 h.c5 h.c6 ok.f0 f1 ok.t1 ok.b0 ok.b1 T0 T1 n0 n1 h.fz Q0 Q1 ok.n0 ok.n1 g0 g1 a1 a2 a3 (by omega) (by omega)).mono (fin _ _ ht (by rw [hq, if_neg (by omega)]))
      · rw [if_neg a3] at ht
        exact (rnext_yes_1 b _ _ _ _ _ _ _ now w h.c0 h.c1 h.c2 h.c3 h.c4 h.c5 h.c6 ok.f0 f1 ok.t1 ok.b0 ok.b1 T0 T1 n0 n1 h.fz Q0 Q1 ok.n0 ok.n1 g0 g1 a1 a2 a3 (by omega) (by omega)).mono (fin _ _ ht (by rw [hq, if_pos (by omega)]))
    · rw [if_neg a2] at ht
      exact (rnext_yes_2 b _ _ _ _ _ _ _ now w h.c0 h.c1 h.c2 h.c3 h.c4 h.c5 h.c6 ok.f0 f1 ok.t1 ok.b0 ok.b1 T0 T1 n0 n1 h.fz Q0 Q1 ok.n0 ok.n1 g0 g1 a1 a2 (by omega) (by omega)).mono (fin _ _ ht (by rw [hq, if_neg (by omega)]))
  · simp only [if_neg a1] at ht
    by_cases a2 : now ≤ rTime s
    · rw [if_pos a2] at ht
      by_cases a3 : rSeq s = 4095
      · rw [if_pos a3] at ht
        exact (rnext_yes_3 b _ _ _ _ _ _ _ now w h.c0 h.c1 h.c2 h.c3 h.c4 h.c5 h.c6 ok.f0 f1 ok.t1 ok.b0 ok.b1 T0 T1 n0 n1 h.fz Q0 Q1 ok.n0 ok.n1 g0 g1 a1 a2 a3 (by omega) (by omega)).mono (fin _ _ ht (by rw [hq, if_neg (by omega)]))
      · rw [if_neg a3] at ht
        exact (rnext_yes_4 b _ _ _ _ _ _ _ now w h.c0 h.c1 h.c2 h.c3 h.c4 h.c5 h.c6 ok.f0 f1 ok.t1 ok.b0 ok.b1 T0 T1 n0 n1 h.fz Q0 Q1 ok.n0 ok.n1 g0 g1 a1 a2 a3 (by omega) (by omega)).mono (fin _ _ ht (by rw [hq, if_pos (by omega)]))
    · rw [if_neg a2] at ht
      exact (rnext_yes_5 b _ _ _ _ _ _ _ now w h.c0 h.c1 h.c2 h.c3 h.c4 h.c5 h.c6 ok.f0 f1 ok.t1 ok.b0 ok.b1 T0 T1 n0 n1 h.fz Q0 Q1 ok.n0 ok.n1 g0 g1 a1 a2 (by omega) (by omega)).mono (fin _ _ ht (by rw [hq, if_neg (by omega)]))
end Go.Proofs.YtdplffhieekfaaaDoor
