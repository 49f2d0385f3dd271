/-
  The walk of stampskeep.Filled: it answers true, and nothing of what was there has turned.
-/
import Derived.Test.YtdplffhieekfaaaBatch
import Derived.Test.YtdplffhieekfaaaAwake
namespace Go.Proofs.Ytdplffhieekfaaa
open Go.RowKit Go.Conc

/-- The desk of Filled. -/
theorem filled_time (B A : Int) (h : 0 ≤ A) : timeOf (newDk 0 0 200 B) A = A ∧ seqOf (newDk 0 0 200 B) A = 0 := by
  have h1 : seqOf (newDk 0 0 200 B) A = 0 := by unfold seqOf newDk; split <;> rfl
  have h2 : max A (max (newDk 0 0 200 B).frm (newDk 0 0 200 B).time) = A := by show max A (max 0 0) = A; omega
  refine ⟨?_, h1⟩
  unfold timeOf
  rw [h2, h1, if_neg (by omega)]

theorem filled_at (B A : Int) (h : 0 ≤ A) (n : Nat) : timeAt (newDk 0 0 200 B) A n = A + n / 4096 ∧ seqAt (newDk 0 0 200 B) A n = n % 4096 := by
  obtain ⟨h1, h2⟩ := filled_time B A h
  unfold timeAt seqAt
  rw [h1, h2]
  constructor <;> omega

theorem filled_num (B A : Int) (h : 0 ≤ A) (n : Nat) : numAt (newDk 0 0 200 B) A n = (A + n / 4096) * 4194304 + n % 4096 := by
  unfold numAt
  rw [(filled_at B A h n).1, (filled_at B A h n).2]
  show numOf _ 0 _ = _
  unfold numOf
  omega

theorem filled_lid (B A : Int) (h1 : A ≤ 99) (h2 : B ≤ 2) : lidOf (newDk 0 0 200 B) A = A + B + 1 := by
  show min 200 (A + B + 1) = A + B + 1
  omega

theorem filled_err (B A : Int) (n : Nat) (h : 0 ≤ A) (h1 : A ≤ 99) (h2 : B ≤ 2) (h0 : 0 ≤ B) (hn : 4096 * (1 + B) < n) : batchErr (newDk 0 0 200 B) A n = 8 := by
  unfold batchErr
  rw [(filled_at B A h (n - 1)).1, filled_lid B A h1 h2, (filled_time B A h).1, if_neg (by omega)]
  unfold errAt
  show (if 200 ≤ max A (A + B + 1) then (7 : Int) else if A + B < max A (A + B + 1) then 8 else 0) = 8
  rw [if_neg (by omega), if_pos (by omega)]

/-- Behind the batch that fills all times that may be had. -/
theorem filled_full (B A : Int) (n : Nat) (h : 0 ≤ A) (h1 : A ≤ 99) (h2 : B ≤ 2) (h0 : 0 ≤ B) (hn : (n : Int) = 4096 * (1 + B)) (ok : (newDk 0 0 200 B).Ok) (s : Dk) (hs : s = { (newDk 0 0 200 B).run A n with given := 0 + n }) :
    errOf s A = 8 ∧ errOf s (A + 1) = 0 ∧ timeOf s (A + 1) = A + B + 1 ∧ seqOf s (A + B + 1) = 0 ∧ s.node = 0 := by
  obtain ⟨m, rfl⟩ : ∃ m, n = m + 1 := ⟨n - 1, by omega⟩
  obtain ⟨r1, r2⟩ := run_at ok A m
  obtain ⟨q1, q2⟩ := run_at ok A (m + 1)
  have hsame := run_same (newDk 0 0 200 B) A (m + 1)
  rw [(filled_at B A h m).1] at r1
  rw [(filled_at B A h m).2] at r2
  rw [(filled_at B A h (m + 1)).1] at q1
  have e1 : s.time = A + B := by rw [hs]; show timeOf _ _ = _; rw [r1]; omega
  have e2 : s.nxt = 4096 := by rw [hs]; show seqOf _ _ + 1 = _; rw [r2]; omega
  have e3 : s.frm = 0 := by rw [hs]; exact hsame.2.1
  have e4 : s.to = 200 := by rw [hs]; exact hsame.2.2.1
  have e5 : s.brw = B := by rw [hs]; exact hsame.2.2.2.1
  have e6 : s.node = 0 := by rw [hs]; exact hsame.1
  have t0 : timeOf s A = A + B + 1 := by rw [hs]; show timeOf ((newDk 0 0 200 B).run A (m + 1)) A = _; rw [q1]; omega
  have sq : seqOf s (A + B + 1) = 0 := by unfold seqOf; rw [e1, if_neg (by omega)]
  have t1 : timeOf s (A + 1) = A + B + 1 := by
    unfold timeOf seqOf
    rw [e1, e2, e3]
    by_cases hB : B = 0
    · rw [if_neg (by rw [if_neg (by omega)]; omega)]; omega
    · rw [if_pos (by rw [if_pos (by omega)])]; omega
  refine ⟨?_, ?_, t1, sq, e6⟩
  · unfold errOf; rw [t0, e4, e5, if_neg (by omega), if_pos (by omega)]
  · unfold errOf; rw [t1, e4, e5, if_neg (by omega), if_neg (by omega)]

/-- Behind the greatest batch, where more may be had. -/
theorem filled_more (A : Int) (n : Nat) (hn : (n : Int) = 10000) (h : 0 ≤ A) (h1 : A ≤ 99) (ok : (newDk 0 0 200 2).Ok) (s : Dk) (hs : s = { (newDk 0 0 200 2).run A n with given := 0 + n }) :
    errOf s A = 0 ∧ timeOf s A = A + 2 ∧ seqOf s (A + 2) = 1808 ∧ s.node = 0 := by
  obtain ⟨q1, q2⟩ := run_at ok A n
  have hsame := run_same (newDk 0 0 200 2) A n
  rw [(filled_at 2 A h n).1] at q1
  rw [(filled_at 2 A h n).2, q1] at q2
  have t0 : timeOf s A = A + 2 := by rw [hs]; show timeOf ((newDk 0 0 200 2).run A n) A = _; rw [q1]; omega
  have sq : seqOf s (A + 2) = 1808 := by
    rw [hs]; show seqOf ((newDk 0 0 200 2).run A n) (A + 2) = _
    have e : A + (n : Int) / 4096 = A + 2 := by omega
    rw [e] at q2
    rw [q2]; omega
  have e4 : s.to = 200 := by rw [hs]; exact hsame.2.2.1
  have e5 : s.brw = 2 := by rw [hs]; exact hsame.2.2.2.1
  refine ⟨?_, t0, sq, by rw [hs]; exact hsame.1⟩
  unfold errOf; rw [t0, e4, e5, if_neg (by omega), if_neg (by omega)]

/-- Filled's reading of the batch, round by round, and what stands behind it: what is owed of the world. -/
structure FilledAt (w W : World) (b : Nat) (c : Option Nat) (s : Dk) : Prop where
  desk : DeskAt W b c s
  bel : Below w.heap.size w W
  far : ∀ j, c = some j → w.heap.size ≤ j

theorem FilledAt.next {w W W' : World} {b : Nat} {c : Option Nat} {s : Dk} (h : FilledAt w W b c s) (hb : w.heap.size ≤ b) (hk : Keep (fun i => i = b ∨ c = some i) W W') : Below w.heap.size w W' :=
  h.bel.trans (hk.below h.bel.size (fun i hi hs => by
    rcases hs with hs | hs
    · omega
    · have := h.far i hs; omega))

set_option maxRecDepth 100000 in
set_option maxHeartbeats 2000000 in
theorem filled_walk (a0 a1 a2 : Int) (h00 : -9223372036854775808 ≤ a0) (h01 : a0 ≤ 9223372036854775807) (h10 : -9223372036854775808 ≤ a1) (h11 : a1 ≤ 9223372036854775807) (h20 : -9223372036854775808 ≤ a2) (h21 : a2 ≤ 9223372036854775807) (w : World) :
    Calls Try.prog 5 #[.int .i64 a0, .int .i64 a1, .int .i64 a2] w fun e w' => e = .returned (.bool true) ∧ Below w.heap.size w w' := by
  obtain ⟨B, hB⟩ : ∃ B, B = pickI a0 3 := ⟨_, rfl⟩
  have hB1 := fun w => pick_any a0 3 w h00 h01 (by omega)
  rw [← hB] at hB1
  obtain ⟨B0, B1⟩ : 0 ≤ B ∧ B ≤ 2 := by have := pickI_bounds a0 3 (by omega); omega
  obtain ⟨A, hA⟩ : ∃ A, A = pickI a2 100 := ⟨_, rfl⟩
  have hA1 := fun w => pick_any a2 100 w h20 h21 (by omega)
  rw [← hA] at hA1
  obtain ⟨A0, A1⟩ : 0 ≤ A ∧ A ≤ 99 := by have := pickI_bounds a2 100 (by omega); omega
  obtain ⟨D, hD⟩ : ∃ D, D = pickI a1 100 := ⟨_, rfl⟩
  have hD1 := fun w => pick_any a1 100 w h10 h11 (by omega)
  rw [← hD] at hD1
  obtain ⟨D0, D1⟩ : 0 ≤ D ∧ D ≤ 99 := by have := pickI_bounds a1 100 (by omega); omega
  clear hB hA hD
  have hnew := fun w => newDesk_yes 0 0 200 B w ⟨by omega, by omega, by omega, by omega, by omega⟩ B0 (by omega)
  by_cases hB2 : B = 2
  · subst hB2
    go_enter Try.func5, Try.ntmps5
    go_wp2_with fail
    refine (awake_any _).mono ?_
    rintro e w1 ⟨rfl, hb1⟩
    have hb1' : Hid _ := hb1
    clear hb1
    go_wp2_with fail
    refine (hB1 _).mono ?_
    rintro e w2 ⟨rfl, rfl⟩
    clear hB1
    go_wp2_with fail
    refine (hA1 _).mono ?_
    rintro e w2 ⟨rfl, rfl⟩
    clear hA1
    go_wp2_with fail
    refine (hnew _).mono ?_
    rintro e w2 ⟨b, hbb, rfl, hd, hb2⟩
    have hb2' : Hid _ := hb2
    have hd' : Hid _ := hd
    clear hb2 hd hnew
    go_wp2_with fail
    refine (hD1 _).mono ?_
    rintro e w3 ⟨rfl, rfl⟩
    clear hD1
    have hbw : w.heap.size ≤ b := Nat.le_trans hb1'.out.size hbb
    have hbel3 : Hid (Below w.heap.size w w3) := hb1'.out.trans (hb2'.out.mono hb1'.out.size)
    have hok := hd'.out.ok
    clear hb1' hb2' hbb
    obtain ⟨cnt, hcnt⟩ : ∃ cnt : Nat, (cnt : Int) = 10000 := ⟨10000, rfl⟩
    have hbt := hd'.out.batch_yes A cnt (by omega) (by omega) (by omega) (by rw [(filled_at 2 A A0 (cnt - 1)).1, filled_lid 2 A A1 (by omega)]; omega) (Int.le_refl _) (by show (0 : Int) + cnt ≤ _; omega)
    have hrest : Hid (∀ e w4, BatchPost w3 b none (newDk 0 0 200 2) A cnt e w4 → ∃ k, e = .returned (.tuple #[.slice (some ⟨k, 0, none⟩) cnt cnt, .int .i64 0]) ∧ (∀ j, j < cnt → w4.cell? ⟨k, j, none⟩ = some (.int .u64 ((A + (j : Int) / 4096) * 4194304 + (j : Int) % 4096))) ∧
        Calls Try.prog 14 #[.pointer (some ⟨b, 0, none⟩), .int .i64 A] w4 fun e w' => e = .returned (.tuple #[.int .u64 ((A + 2) * 4194304 + 1808), .int .i64 0]) ∧ Below w.heap.size w w') := by
      rintro e w4 ⟨k, hk, rfl, hrow, ⟨c', hc', hd4⟩, hkp⟩
      refine ⟨k, rfl, fun j hj => by rw [hrow.cell j hj, filled_num 2 A A0 j], ?_⟩
      generalize hs1 : ({ (newDk 0 0 200 2).run A cnt with given := (newDk 0 0 200 2).given + cnt } : Dk) = s1 at hd4
      obtain ⟨g1, g2, g3, g4⟩ := filled_more A cnt hcnt A0 A1 hok s1 hs1.symm
      have g5 : s1.given = 10000 := by rw [← hs1]; show (0 : Int) + cnt = _; omega
      have hb4 : Below w.heap.size w w4 := hbel3.out.trans (hkp.below hbel3.out.size (fun i hi hs => by rcases hs with hs | hs; omega; cases hs))
      have hF : FilledAt w w4 b c' _ := ⟨hd4, hb4, fun j hj => by
        rcases hc' with rfl | ⟨j', hj', hj2⟩
        · cases hj
        · rw [hj2] at hj; cases hj; have := hbel3.out.size; omega⟩
      refine (hd4.next_yes A (by omega) g1 (by omega) (by omega)).mono ?_
      rintro e w5 ⟨rfl, c5, _, _, hkp5⟩
      refine ⟨?_, hF.next hbw hkp5⟩
      rw [g2, g3, g4]
      exact congrArg (fun x => Ending.returned (.tuple #[.int .u64 x, .int .i64 0])) (by unfold numOf; omega)
    rw [hcnt] at hbt
    clear hd' hok
    go_wp2_with fail
    refine hbt.mono ?_
    intro e w4 hpost
    obtain ⟨k, rfl, hcell, hnx⟩ := hrest.out e w4 hpost
    clear hpost hbt hrest
    go_wp2_with fail
    go_loop [15] (fun i => ∃ j : Nat, j ≤ cnt ∧ i = .int .i64 j) (fun i => cnt - (intOf i).toNat)
    case atStart => exact ⟨0, Nat.zero_le _, rfl⟩
    case round =>
      obtain ⟨j, hj, rfl⟩ := hrel
      by_cases hlt : j < cnt
      · have hcj := hcell j hlt
        clear hcell
        go_wp2
        exact ⟨⟨j + 1, by omega, by go_num⟩, by simp [intOf]; omega⟩
      · clear hcell
        go_wp2_with fail
        refine hnx.mono ?_
        rintro e w5 ⟨rfl, hb5⟩
        have hb5' : Hid _ := hb5
        clear hnx hb5
        go_wp2
        go_ret
        exact ⟨rfl, hb5'.out⟩
  · have B2 : B ≤ 1 := by omega
    clear hB2
    go_enter Try.func5, Try.ntmps5
    go_wp2_with fail
    refine (awake_any _).mono ?_
    rintro e w1 ⟨rfl, hb1⟩
    have hb1' : Hid _ := hb1
    clear hb1
    go_wp2_with fail
    refine (hB1 _).mono ?_
    rintro e w2 ⟨rfl, rfl⟩
    clear hB1
    go_wp2_with fail
    refine (hA1 _).mono ?_
    rintro e w2 ⟨rfl, rfl⟩
    clear hA1
    go_wp2_with fail
    refine (hnew _).mono ?_
    rintro e w2 ⟨b, hbb, rfl, hd, hb2⟩
    have hb2' : Hid _ := hb2
    have hd' : Hid _ := hd
    clear hb2 hd hnew
    go_wp2_with fail
    refine (hD1 _).mono ?_
    rintro e w3 ⟨rfl, rfl⟩
    clear hD1
    have hbw : w.heap.size ≤ b := Nat.le_trans hb1'.out.size hbb
    have hbel3 : Hid (Below w.heap.size w w3) := hb1'.out.trans (hb2'.out.mono hb1'.out.size)
    have hok := hd'.out.ok
    clear hb1' hb2' hbb
    obtain ⟨cm, hcm⟩ : ∃ cm : Nat, (cm : Int) = 4096 * (1 + B) + (1 + D) := ⟨(4096 * (1 + B) + (1 + D)).toNat, by omega⟩
    have hbn := hd'.out.batch_no A cm (by omega) (by omega) (by omega) (by rw [filled_err B A cm A0 A1 (by omega) B0 (by omega)]; omega)
    rw [filled_err B A cm A0 A1 (by omega) B0 (by omega), hcm] at hbn
    clear hcm
    obtain ⟨cnt, hcnt⟩ : ∃ cnt : Nat, (cnt : Int) = 4096 * (1 + B) := ⟨(4096 * (1 + B)).toNat, by omega⟩
    have hbt := fun n => (hd'.out.drewN n).batch_yes A cnt (by omega) (by omega) (by omega) (by rw [(filled_at B A A0 (cnt - 1)).1, filled_lid B A A1 (by omega)]; omega) (Int.le_refl _) (by show (0 : Int) + cnt ≤ _; omega)
    have hrest : Hid (∀ n e w4, BatchPost (w3.drewN n) b none (newDk 0 0 200 B) A cnt e w4 → ∃ k, e = .returned (.tuple #[.slice (some ⟨k, 0, none⟩) cnt cnt, .int .i64 0]) ∧ (∀ j, j < cnt → w4.cell? ⟨k, j, none⟩ = some (.int .u64 ((A + (j : Int) / 4096) * 4194304 + (j : Int) % 4096))) ∧
        Calls Try.prog 14 #[.pointer (some ⟨b, 0, none⟩), .int .i64 A] w4 (fun e w' => e = .returned (.tuple #[.int .u64 0, .int .i64 8]) ∧ ∃ m, w' = w4.drewN m) ∧
        ∀ m, Calls Try.prog 14 #[.pointer (some ⟨b, 0, none⟩), .int .i64 (A + 1)] (w4.drewN m) fun e w' => e = .returned (.tuple #[.int .u64 ((A + B + 1) * 4194304), .int .i64 0]) ∧ Below w.heap.size w w') := by
      rintro n e w4 ⟨k, hk, rfl, hrow, ⟨c', hc', hd4⟩, hkp⟩
      generalize hs1 : ({ (newDk 0 0 200 B).run A cnt with given := (newDk 0 0 200 B).given + cnt } : Dk) = s1 at hd4
      obtain ⟨g1, g2, g3, g4, g5⟩ := filled_full B A cnt A0 A1 (by omega) B0 hcnt hok s1 hs1.symm
      have g6 : s1.given = cnt := by rw [← hs1]; show (0 : Int) + cnt = _; omega
      refine ⟨k, rfl, fun j hj => by rw [hrow.cell j hj, filled_num B A A0 j], ?_, fun m => ?_⟩
      · have := hd4.next_no A (by omega) (by rw [g1]; omega)
        rw [g1] at this
        exact this
      · have hbn : Below w.heap.size w (w3.drewN n) := below_drewN hbel3.out n
        have hb4 : Below w.heap.size w w4 := hbn.trans (hkp.below hbn.size (fun i hi hs => by rcases hs with hs | hs; omega; cases hs))
        have hF : FilledAt w (w4.drewN m) b c' s1 := ⟨hd4.drewN m, below_drewN hb4 m, fun j hj => by
          rcases hc' with rfl | ⟨j', hj', hj2⟩
          · cases hj
          · rw [hj2] at hj; cases hj; have := hbn.size; omega⟩
        refine ((hd4.drewN m).next_yes (A + 1) (by omega) g2 (by omega) (by omega)).mono ?_
        rintro e w5 ⟨rfl, c5, _, _, hkp5⟩
        refine ⟨?_, hF.next hbw hkp5⟩
        rw [g3, g4, g5]
        exact congrArg (fun x => Ending.returned (.tuple #[.int .u64 x, .int .i64 0])) (by unfold numOf; omega)
    rw [hcnt] at hbt
    clear hd' hok
    go_wp2_with fail
    refine hbn.mono ?_
    rintro e w4 ⟨rfl, m, rfl⟩
    clear hbn
    go_wp2_with fail
    refine (hbt _).mono ?_
    intro e w4 hpost
    obtain ⟨k, rfl, hcell, hnx, hnx2⟩ := hrest.out _ e w4 hpost
    clear hpost hbt hrest
    go_wp2_with fail
    go_loop [15] (fun i => ∃ j : Nat, j ≤ cnt ∧ i = .int .i64 j) (fun i => cnt - (intOf i).toNat)
    case atStart => exact ⟨0, Nat.zero_le _, rfl⟩
    case round =>
      obtain ⟨j, hj, rfl⟩ := hrel
      by_cases hlt : j < cnt
      · have hcj := hcell j hlt
        clear hcell
        go_wp2
        exact ⟨⟨j + 1, by omega, by go_num⟩, by simp [intOf]; omega⟩
      · clear hcell
        go_wp2_with fail
        refine hnx.mono ?_
        rintro e w5 ⟨rfl, m2, rfl⟩
        clear hnx
        go_wp2_with fail
        refine (hnx2 _).mono ?_
        rintro e w5 ⟨rfl, hb5⟩
        have hb5' : Hid _ := hb5
        clear hnx2 hb5
        go_wp2
        go_ret
        exact ⟨rfl, hb5'.out⟩

end Go.Proofs.Ytdplffhieekfaaa
