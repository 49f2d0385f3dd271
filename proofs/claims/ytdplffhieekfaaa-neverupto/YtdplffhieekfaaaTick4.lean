/-
  stampskeep's fleet: a tick of the fourth kind: the office ends, and begins anew; ticks of no kind.
-/
import Derived.Test.YtdplffhieekfaaaTick1
namespace Go.Proofs.Ytdplffhieekfaaa
open Go.RowKit Go.Maps Go.Lib

theorem mx_from (x : Int) (F : Nat) : (if (if x < 0 then 0 else x) < (F : Int) then (F : Int) else if x < 0 then 0 else x) = fromOf x F := by
  unfold fromOf
  by_cases hx : x < 0
  · rw [if_pos hx]
    split <;> omega
  · rw [if_neg hx]
    split <;> omega

/-- Nothing happened. -/
theorem FleetOk.later {t : Nat} {rs : List (Nat × Nat)} {d : Nat → Fd} {bot : Nat → Int} {all : List Int} (h : FleetOk t rs d bot all) : FleetOk (t + 1) rs d bot all := by
  have := h.asked 0 (d 0) rfl rfl rfl rfl rfl (h.ok 0 (by omega)) (h.given 0 (by omega)).1 (by have := (h.given 0 (by omega)).2; omega) (by have := (h.clk 0 (by omega)).1; omega) (by have := (h.clk 0 (by omega)).2; omega)
  have e : upd d 0 (d 0) = d := by funext i; unfold upd; split
                                   · rename_i hi; rw [hi]
                                   · rfl
  rw [e] at this
  exact this

set_option maxRecDepth 100000 in
set_option maxHeartbeats 4000000 in
theorem tick4 {B : Nat} {W0 W : World} {X t : Nat} (h : FleetInv B W0 W X t) (ht : t ≤ 1048576) (A Bv : Int) (a1 : -9223372036854775808 ≤ A) (a2 : A ≤ 9223372036854775807) (b1 : -9223372036854775808 ≤ Bv) (b2 : Bv ≤ 9223372036854775807) :
    Calls Try.prog 19 #[.pointer (some ⟨X, 0, none⟩), .agg #[.int .i64 4, .int .i64 A, .int .i64 Bv]] W fun e w' => e = .returned (.bool true) ∧ FleetInv B W0 w' X (t + 1) := by
  obtain ⟨F, rs, d, bot, all, rfl, hA, hO, htop, hl0, h400, hrs, hs1, hs2, hbel⟩ := h.ex
  obtain ⟨k, hkp, hk⟩ : ∃ k : Nat, pickI A 6 = (k : Int) ∧ k < 6 := by
    have := pickI_bounds A 6 (by omega)
    exact ⟨(pickI A 6).toNat, by omega, by omega⟩
  have hk1 := fun w => pick_any A 6 w a1 a2 (by omega)
  rw [hkp] at hk1
  obtain ⟨p, hp, hp1⟩ : ∃ p : Nat, pickI Bv 13 = (p : Int) ∧ p < 13 := by
    have := pickI_bounds Bv 13 (by omega)
    exact ⟨(pickI Bv 13).toNat, by omega, by omega⟩
  have hk2 := fun w => pick_any Bv 13 w b1 b2 (by omega)
  rw [hp] at hk2
  obtain ⟨W1, hW1⟩ : ∃ W1, W1 = W.alloc (.cells #[.int .i64 4, .int .i64 A, .int .i64 Bv] 59) := ⟨_, rfl⟩
  have hA1 : FleetAt B W1 F rs d all := by rw [hW1]; exact hA.below ((Below.refl _ _).alloc (Nat.le_refl _) _)
  have y0 := hA1.but.x0 id
  have d1 := hA1.but.rD id k hk
  have hk6 : (k : Int) < 6 := by omega
  rw [hW1] at y0 d1
  replace hW1 : Hid _ := hW1
  replace hA1 : Hid _ := hA1
  replace hA : Hid _ := hA
  replace hO : Hid _ := hO
  replace htop : Hid _ := htop
  clear h hkp hp
  go_enter Try.func19, Try.ntmps19
  go_wp2
  go_quiet ((go_at_call 11; exact Calls.quiet_of_same (hk1 _)))
  obtain ⟨V, hV⟩ : ∃ V, V = (W.alloc (.cells #[.int .i64 4, .int .i64 A, .int .i64 Bv] 59)).drewN nq := ⟨_, rfl⟩
  have v0 : V.cell? ⟨F.X, 0, none⟩ = some (.slice (some ⟨F.gD, 0, none⟩) 6 F.cD) := by rw [hV]; exact y0
  have vd : V.cell? ⟨F.gD, k, none⟩ = some (.pointer (some ⟨F.dk k, 0, none⟩)) := by rw [hV]; exact d1
  have vt0 : V.cell? ⟨W.heap.size, 0, none⟩ = some (.int .i64 4) := by rw [hV]; exact (cell_alloc_new W #[.int .i64 4, .int .i64 A, .int .i64 Bv] 59 0).1
  have vt : V.cell? ⟨W.heap.size, 2, none⟩ = some (.int .i64 Bv) := by rw [hV]; exact (cell_alloc_new W #[.int .i64 4, .int .i64 A, .int .i64 Bv] 59 2).1
  rw [← hV]
  have hAV : FleetAt B V F rs d all := by rw [hV, ← hW1.out]; exact hA1.out.below (below_drewN (Below.refl _ _) nq)
  have hbV : Below B W0 V := by
    rw [hV]
    exact below_drewN (hbel.alloc (by have := hbel.size; have := hA.out.base .own F.X rfl; omega) _) nq
  have hWV : W.heap.size < V.heap.size := by rw [hV]; simp [World.drewN]
  have v4 := hAV.but.x4 id
  have hoff := hAV.but.off id id id
  have hj1 := journal_any hoff
  have hfe := hO.out.fence 900
  have hle := lease_walk hoff 900 (fenceOf rs 900) 0 (by omega) (by rw [mx_from]; unfold fromOf; omega) (by omega) (by omega)
  obtain ⟨J, hJ⟩ : ∃ J, J = jtext rs := ⟨_, rfl⟩
  have hJl : J.length = 13 * rs.length := by rw [hJ, jtext_length]
  rw [← hJ] at hj1
  replace hJ : Hid _ := hJ
  replace hV : Hid _ := hV
  clear y0 d1
  go_wp2_with fail
  refine hj1.mono ?_
  rintro e w4 ⟨rfl, rfl⟩
  clear hj1
  obtain ⟨TO, hTO⟩ : ∃ TO, TO = fenceOf rs 900 + F.span := ⟨_, rfl⟩
  obtain ⟨FE, hFE⟩ : ∃ FE, FE = fenceOf rs 900 := ⟨_, rfl⟩
  rw [← hFE] at hle
  have hLcast : ((900 : Nat) : Int) = 900 := rfl
  rw [hLcast] at hle
  clear hLcast
  replace hoff : Hid _ := hoff
  go_wp2_with fail
  refine hle.mono ?_
  rintro e w5 ⟨rfl, hL5⟩
  obtain ⟨g5, cap5, _, hA5⟩ := hAV.leased hL5
  rw [hFE, ← hTO] at hA5
  have hb5 : Below B W0 w5 := hbV.trans (hL5.keep.below (by have := hbV.size; have := (hAV.base .own F.X rfl); omega) (fun i hi hs => by
    have e1 := (hAV.base .office F.b rfl).1
    have e2 := (hAV.base .map F.m rfl).1
    have e3 := (hAV.base .row F.g rfl).1
    rcases hs with e | e | e <;> omega))
  have hW5 : W.heap.size < w5.heap.size := by have := hL5.keep.size; omega
  have hlm : W.heap.size ≠ F.b ∧ W.heap.size ≠ F.m ∧ W.heap.size ≠ F.g := by
    have e1 := (hA.out.base .office F.b rfl).2
    have e2 := (hA.out.base .map F.m rfl).2
    have e3 := (hA.out.base .row F.g rfl).2
    omega
  have t5 : w5.cell? ⟨W.heap.size, 2, none⟩ = some (.int .i64 Bv) := (hL5.keep.cell (p := ⟨W.heap.size, 2, none⟩) hWV (fun hs => by rcases hs with e | e | e; exact hlm.1 e; exact hlm.2.1 e; exact hlm.2.2 e)).trans vt
  have x5 : w5.cell? ⟨F.X, 4, none⟩ = some (.pointer (some ⟨F.b, 0, none⟩)) := hA5.but.x4 id
  have z5 : w5.frozen? ⟨F.X, 4, none⟩ = false := hA5.but.xz id 4
  have hX5 : F.X < w5.heap.size := (hA5.base .own F.X rfl).2
  have hA6 : FleetAt B (w5.alloc (.cells #[.int .i64 900, .int .i64 FE, .int .i64 ((FE : Int) + (F.span : Int))] 39)) { F with g := g5, cap := cap5 } (rs ++ [(900, TO)]) d all := hA5.below ((Below.refl _ _).alloc (Nat.le_refl _) _)
  have hj2 := journal_any (hA6.but.off id id id)
  obtain ⟨U, hU⟩ : ∃ U, U = jtext (rs ++ [(900, TO)]) := ⟨_, rfl⟩
  have hUl : U.length = 13 * rs.length + 13 := by rw [hU, jtext_length, List.length_append]; simp; omega
  have hUJ : U.take J.length = J := by rw [hU, hJ.out, jtext_snoc]; exact List.take_left
  rw [← hU] at hj2
  have hgood := (hA5.but.off id id id).good
  have hno : ∀ w, Calls Try.prog 17 #[.string ((btext U).extract 0 (13 * rs.length + p)), .int .i64 50] w fun e w' => ∃ b m g cap, e = .returned (.tuple #[.pointer (some ⟨b, 0, none⟩), .int .i64 0]) ∧ w.heap.size ≤ b ∧ w.heap.size ≤ m ∧ w.heap.size ≤ g ∧ OfficeAt w' b m g cap 50 rs ∧ Below w.heap.size w w' := fun w => by
    have := newOffice_told (rs ++ [(900, TO)]) hgood (13 * rs.length + p) 50 w (by rw [← hU]; omega) (by omega) (by omega) (by omega)
    rw [← hU, ← btext_take, show (13 * rs.length + p) / 13 = rs.length from by omega, List.take_left] at this
    exact this
  have hcmp : (((btext U).extract 0 (13 * rs.length)).toList == J) = true := by
    rw [btext_take, ← hJl, hUJ, ByteArray.toList_eq]
    simp
  have hk2' : ∀ w, Calls Try.prog 11 #[.int .i64 Bv, .int .i64 (13 * (rs.length : Int) + 13 - 13 * (rs.length : Int))] w fun e w' => e = .returned (.int .i64 (p : Int)) ∧ w' = w := by
    rw [show 13 * (rs.length : Int) + 13 - 13 * (rs.length : Int) = 13 from by omega]
    exact hk2
  have hrl : (rs.length : Int) ≤ 1048582 := by omega
  replace hA5 : Hid _ := hA5
  replace hA6 : Hid _ := hA6
  replace hb5 : Hid _ := hb5
  replace hL5 : Hid _ := hL5
  replace hU : Hid _ := hU
  replace hUJ : Hid _ := hUJ
  replace hTO : Hid _ := hTO
  replace hFE : Hid _ := hFE
  replace hAV : Hid _ := hAV
  replace hbV : Hid _ := hbV
  clear hle
  go_wp2_with fail
  refine hj2.mono ?_
  rintro e w6 ⟨rfl, rfl⟩
  clear hj2
  go_wp2_with fail
  refine (hk2' _).mono ?_
  rintro e w6 ⟨rfl, rfl⟩
  clear hk2' hk2
  go_wp2_with fail
  refine (hno _).mono ?_
  rintro e w7 ⟨b7, m7, g7, cap7, rfl, l1, l2, l3, hO7, hb7⟩
  have hj3 := journal_any hO7
  rw [← hJ.out] at hj3
  have hX7 : w7.heap[F.X]? = w5.heap[F.X]? := (hb7.block F.X (by simp; omega)).trans (heap_alloc_old _ _ hX5)
  have x7 : w7.cell? ⟨F.X, 4, none⟩ = some (.pointer (some ⟨F.b, 0, none⟩)) := (World.cell?_of_block (w := w5) (a := ⟨F.X, 4, none⟩) hX7).trans x5
  have z7 : w7.frozen? ⟨F.X, 4, none⟩ = false := (World.frozen?_of_block (w := w5) (a := ⟨F.X, 4, none⟩) hX7).trans z5
  have hfin : Hid (FleetInv B W0 (w7.setCell ⟨F.X, 4, none⟩ (.pointer (some ⟨b7, 0, none⟩))) F.X (t + 1)) := by
    have hA7 := hA6.out.reOffice hb7 hO7 l1 l2 l3
    have hb : Below B W0 (w7.setCell ⟨F.X, 4, none⟩ (.pointer (some ⟨b7, 0, none⟩))) := by
      have e0 := (hA6.out.base .own F.X rfl)
      have e1 := hb5.out.size
      refine ((hb5.out.alloc ?_ _).trans (hb7.mono ?_)).setCell e0.1 _
      · omega
      · simp; omega
    exact ⟨{ F with b := b7, m := m7, g := g7, cap := cap7, span := 50 }, rs, d, bot, all, rfl, hA7, hO.out.later, htop.out, hl0, h400, by omega, by show 1 ≤ 50; omega, by show 50 ≤ 50; omega, hb⟩
  replace hO7 : Hid _ := hO7
  replace hb7 : Hid _ := hb7
  clear hno hX7
  go_wp2_with fail
  refine hj3.mono ?_
  rintro e w8 ⟨rfl, rfl⟩
  clear hj3
  go_wp2
  go_ret
  exact ⟨rfl, hfin.out⟩
end Go.Proofs.Ytdplffhieekfaaa
