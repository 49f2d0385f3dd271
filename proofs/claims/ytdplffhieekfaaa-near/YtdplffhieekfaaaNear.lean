/-
  The walk of stampskeep.Near: it answers true, and nothing of what was there has turned.
-/
import Derived.Test.YtdplffhieekfaaaAwake
namespace Go.Proofs.Ytdplffhieekfaaa
open Go.RowKit Go.Conc

/-- A number is taken apart into the parts that it was made of. -/
theorem parts_num (t nd s : Int) (w : World) (h0 : 0 ≤ t) (h1 : t < 2199023255552) (h2 : 0 ≤ nd) (h3 : nd < 1024) (h4 : 0 ≤ s) (h5 : s < 4096) :
    Calls Try.prog 10 #[.int .u64 (numOf t nd s)] w fun e w' => e = .returned (.tuple #[.agg #[.int .i64 t, .int .i64 nd, .int .i64 s], .int .i64 0]) ∧ Below w.heap.size w w' := by
  have h := parts_ok (numOf t nd s) w (by unfold numOf; omega) (by unfold numOf; omega)
  have e1 : numOf t nd s / 4194304 = t := by unfold numOf; omega
  have e2 : numOf t nd s / 4096 % 1024 = nd := by unfold numOf; omega
  have e3 : numOf t nd s % 4096 = s := by unfold numOf; omega
  rw [e1, e2, e3] at h
  exact h

theorem timeOf_free {s : Dk} (now : Int) (h : s.nxt < 4096) : timeOf s now = max now (max s.frm s.time) := by
  unfold timeOf
  rw [if_neg]
  unfold seqOf
  split <;> omega

/-- What holds of Near's desk between two rounds. -/
structure NearAt (F B : Int) (k : Nat) (s : Dk) : Prop where
  nd : s.node = 1023
  frm : s.frm = F
  to : s.to = F + 500
  brw : s.brw = B
  lt : s.time < F + 500
  few : s.nxt ≤ s.given
  g0 : 0 ≤ s.given
  gk : s.given ≤ k

theorem near_time {F B : Int} {k : Nat} {s : Dk} (h : NearAt F B k s) (hk : k < 4000) (now : Int) : timeOf s now = max now (max F s.time) := by
  rw [timeOf_free now (by have := h.few; have := h.gk; omega), h.frm]
theorem near_err {F B : Int} {k : Nat} {s : Dk} (h : NearAt F B k s) (hk : k < 4000) (now : Int) :
    errOf s now = if F + 500 ≤ max now (max F s.time) then 7 else if now + B < max now (max F s.time) then 8 else 0 := by
  unfold errOf
  rw [near_time h hk now, h.to, h.brw]
/-- Behind a number: the desk's data. -/
theorem near_step {F B : Int} {k : Nat} {s : Dk} (h : NearAt F B k s) (hk : k < 4000) (now : Int) (he : errOf s now = 0) : NearAt F B (k + 1) (s.step now) := by
  have ht := near_time h hk now
  rw [near_err h hk now] at he
  have h1 := h.few
  have h2 := h.g0
  have h3 := h.gk
  refine ⟨h.nd, h.frm, h.to, h.brw, ?_, ?_, ?_, ?_⟩
  · show timeOf s now < F + 500
    rw [ht]
    split at he
    · omega
    · omega
  · show seqOf s (timeOf s now) + 1 ≤ s.given + 1
    unfold seqOf
    split <;> omega
  · show 0 ≤ s.given + 1
    omega
  · show s.given + 1 ≤ ((k + 1 : Nat) : Int)
    omega
theorem NearAt.up {F B : Int} {k : Nat} {s : Dk} (h : NearAt F B k s) : NearAt F B (k + 1) s :=
  ⟨h.nd, h.frm, h.to, h.brw, h.lt, h.few, h.g0, by have := h.gk; omega⟩

set_option maxRecDepth 100000 in
set_option maxHeartbeats 2000000 in
theorem near_walk (a0 : Int) (a1 : Option Addr) (len cap : Nat) (a2 : Int) (w : World) (h00 : -9223372036854775808 ≤ a0) (h01 : a0 ≤ 9223372036854775807) (h20 : -9223372036854775808 ≤ a2) (h21 : a2 ≤ 9223372036854775807)
    (_hlen : len ≤ 9223372036854775807) (hrow : ∀ k, k < len → ∃ b off z, a1 = some ⟨b, off, none⟩ ∧ w.cell? ⟨b, off + k, none⟩ = some (.int .i64 z) ∧ -9223372036854775808 ≤ z ∧ z ≤ 9223372036854775807) :
    Calls Try.prog 4 #[.int .i64 a0, .slice a1 len cap, .int .i64 a2] w fun e w' => e = .returned (.bool true) ∧ Below w.heap.size w w' := by
  obtain ⟨B, hB⟩ : ∃ B, B = pickI a0 51 := ⟨_, rfl⟩
  have hB1 := fun w => pick_any a0 51 w h00 h01 (by omega)
  rw [← hB] at hB1
  obtain ⟨B0, B1⟩ : 0 ≤ B ∧ B ≤ 50 := by have := pickI_bounds a0 51 (by omega); omega
  obtain ⟨F, hF⟩ : ∃ F, F = pickI a2 1000 := ⟨_, rfl⟩
  have hF1 := fun w => pick_any a2 1000 w h20 h21 (by omega)
  rw [← hF] at hF1
  obtain ⟨F0, F1⟩ : 0 ≤ F ∧ F ≤ 999 := by have := pickI_bounds a2 1000 (by omega); omega
  clear hB hF
  have hnew := fun w => newDesk_yes 1023 (1000 + F) (1000 + F + 500) B w ⟨by omega, by omega, by omega, by omega, by omega⟩ B0 (by omega)
  have hrow' : Hid _ := hrow
  clear hrow
  go_enter Try.func4, Try.ntmps4
  go_wp2_with fail
  refine (awake_any _).mono ?_
  rintro e w1 ⟨rfl, hb1⟩
  have hb1' : Hid _ := hb1
  clear hb1
  go_wp2_with fail
  refine (hB1 _).mono ?_
  rintro e w2 ⟨rfl, rfl⟩
  clear hB1
  go_wp2_with fail
  refine (hF1 _).mono ?_
  rintro e w2 ⟨rfl, rfl⟩
  clear hF1
  go_wp2_with fail
  refine (hnew _).mono ?_
  rintro e w2 ⟨b, hbb, rfl, hd, hb2⟩
  have hb2' : Hid _ := hb2
  have hd' : Hid _ := hd
  clear hb2 hd hnew
  go_wp2_with fail
  go_loopw [12, 13, 14] (fun g l i W => ∃ (k : Nat) (s : Dk) (c : Option Nat), k ≤ len ∧ k ≤ 4000 ∧ i = .int .i64 k ∧ g = .int .i64 s.given ∧ l = .int .i64 (max (1000 + F) s.time) ∧ Hid (DeskAt W b c s) ∧ Hid (NearAt (1000 + F) B k s) ∧ Hid (Below w.heap.size w W) ∧ Hid (∀ j, c = some j → w.heap.size ≤ j))
    (fun _ _ i _ => 4000 - (intOf i).toNat)
  case atStart =>
    refine ⟨0, newDk 1023 (1000 + F) (1000 + F + 500) B, none, Nat.zero_le _, by omega, rfl, rfl, ?_, hd', ?_, ?_, ?_⟩
    · show Value.int IntKind.i64 (1000 + F) = Value.int IntKind.i64 (max (1000 + F) 0)
      rw [show max (1000 + F) 0 = 1000 + F by omega]
    · exact ⟨rfl, rfl, rfl, rfl, by show (0 : Int) < _; omega, Int.le_refl _, Int.le_refl _, Int.le_refl _⟩
    · exact hb1'.out.trans (hb2'.out.mono hb1'.out.size)
    · exact fun j hj => by cases hj
  case round =>
    clear hd' hb2'
    have hbw : w.heap.size ≤ b := Nat.le_trans hb1'.out.size hbb
    clear hb1' hbb
    obtain ⟨k, s, c, hk1, hk2, rfl, rfl, rfl, hD, hS, hW, hC⟩ := hrel
    obtain ⟨L, hL⟩ : ∃ L, L = max (1000 + F) s.time := ⟨_, rfl⟩
    rw [← hL]
    have L0 : 1000 + F ≤ L := by omega
    have L1 : L < 1000 + F + 500 := by have := hS.out.lt; omega
    have hL' : Hid (L = max (1000 + F) s.time) := hL
    clear hL
    obtain ⟨g, hg⟩ : ∃ g, g = s.given := ⟨_, rfl⟩
    rw [← hg]
    have hg0 : 0 ≤ g := by rw [hg]; exact hS.out.g0
    have hg1 : g ≤ k := by rw [hg]; exact hS.out.gk
    have hg' : Hid (g = s.given) := hg
    clear hg
    by_cases hlt : k < len ∧ k < 4000
    · obtain ⟨hl1, hl2⟩ := hlt
      obtain ⟨bb, off, z, rfl, hz, z0, z1⟩ := hrow'.out k hl1
      clear hrow'
      have hz' : wr.cell? ⟨bb, off + k, none⟩ = some (.int .i64 z) := by rw [hW.out.cell (p := ⟨bb, off + k, none⟩) (block_lt_of_cell hz)]; exact hz
      clear hz
      obtain ⟨q, hq⟩ : ∃ q, q = pickI z 600 := ⟨_, rfl⟩
      have hq1 := fun w => pick_any z 600 w z0 z1 (by omega)
      rw [← hq] at hq1
      obtain ⟨q0, q1⟩ : 0 ≤ q ∧ q < 600 := by have := pickI_bounds z 600 (by omega); omega
      clear hq
      have herr := near_err hS.out hl2 (1000 + F - 60 + q)
      have htim := near_time hS.out hl2 (1000 + F - 60 + q)
      rw [← hL'.out] at herr htim
      by_cases e7 : 1000 + F + 500 ≤ 1000 + F - 60 + q
      · have he : errOf s (1000 + F - 60 + q) = 7 := by rw [herr, if_pos (by omega)]
        have hn := hD.out.next_no (1000 + F - 60 + q) (by omega) (by rw [he]; omega)
        rw [he] at hn
        clear herr htim he
        go_wp2_with fail
        refine (hq1 _).mono ?_
        rintro e w3 ⟨rfl, rfl⟩
        clear hq1
        go_wp2_with fail
        refine hn.mono ?_
        rintro e w3 ⟨rfl, m, rfl⟩
        clear hn
        go_wp2
        exact ⟨⟨k + 1, s, c, by omega, by omega, by go_num, by rw [hg'.out], by rw [hL'.out], hD.out.drewN m, hS.out.up, below_drewN hW.out m, hC⟩, by simp [intOf]; omega⟩
      · by_cases e8 : 1000 + F - 60 + q + B < L
        · have he : errOf s (1000 + F - 60 + q) = 8 := by rw [herr, if_neg (by omega), if_pos (by omega)]
          have hn := hD.out.next_no (1000 + F - 60 + q) (by omega) (by rw [he]; omega)
          rw [he] at hn
          clear herr htim he
          go_wp2_with fail
          refine (hq1 _).mono ?_
          rintro e w3 ⟨rfl, rfl⟩
          clear hq1
          go_wp2_with fail
          refine hn.mono ?_
          rintro e w3 ⟨rfl, m, rfl⟩
          clear hn
          go_wp2
          exact ⟨⟨k + 1, s, c, by omega, by omega, by go_num, by rw [hg'.out], by rw [hL'.out], hD.out.drewN m, hS.out.up, below_drewN hW.out m, hC⟩, by simp [intOf]; omega⟩
        · have he : errOf s (1000 + F - 60 + q) = 0 := by rw [herr, if_neg (by omega), if_neg (by omega)]
          have hstep : Hid _ := near_step hS.out hl2 _ he
          have hq5 := seqOf_lt hD.out.ok (1000 + F - 60 + q)
          have hn := hD.out.next_yes (1000 + F - 60 + q) (by omega) he (by rw [← hg'.out]; omega) (by rw [← hg'.out]; omega)
          have hfin : Hid (∀ (w3 w4 : World) (c' : Option Nat), (c' = c ∨ ∃ k, wr.heap.size ≤ k ∧ c' = some k) → DeskAt w3 b c' (s.step (1000 + F - 60 + q)) → Keep (fun i => i = b ∨ c = some i) wr w3 → Below w3.heap.size w3 w4 →
              DeskAt w4 b c' (s.step (1000 + F - 60 + q)) ∧ Below w.heap.size w w4 ∧ ∀ j, c' = some j → w.heap.size ≤ j) := by
            intro w3 w4 c' hc' hd3 hkp hb4
            have hC' := hC.out
            have hWs := hW.out.size
            refine ⟨hd3.below hb4, ?_, ?_⟩
            · exact (hW.out.trans (hkp.below hWs (fun i hi hs => by
                rcases hs with hs | hs
                · omega
                · have := hC' i hs; omega))).trans (hb4.mono (Nat.le_trans hWs hkp.size))
            · intro j hj
              rcases hc' with rfl | ⟨k', hk', hk''⟩
              · exact hC' j hj
              · rw [hk''] at hj; cases hj; omega
          have hst : Hid ((s.step (1000 + F - 60 + q)).given = g + 1 ∧ (s.step (1000 + F - 60 + q)).time = max (1000 + F - 60 + q) L) := ⟨by rw [hg'.out]; rfl, htim⟩
          rw [hS.out.nd, htim] at hn
          rw [htim] at hq5
          obtain ⟨sq, hsq⟩ : ∃ sq, sq = seqOf s (max (1000 + F - 60 + q) L) := ⟨_, rfl⟩
          rw [← hsq] at hn hq5
          obtain ⟨sq0, sq1⟩ := hq5
          clear herr htim he hsq
          by_cases hnl : 1000 + F - 60 + q < L
          · rw [show max (1000 + F - 60 + q) L = L by omega] at hn hst
            have hp := fun w => parts_num L 1023 sq w (by omega) (by omega) (by omega) (by omega) sq0 sq1
            generalize numOf L 1023 sq = nv at *
            go_wp2_with fail
            refine (hq1 _).mono ?_
            rintro e w3 ⟨rfl, rfl⟩
            clear hq1
            go_wp2_with fail
            refine hn.mono ?_
            rintro e w4 ⟨rfl, c', hc', hd4, hkp⟩
            have hc'' : Hid _ := hc'
            have hd4' : Hid _ := hd4
            have hkp' : Hid _ := hkp
            clear hn hc' hd4 hkp
            go_wp2_with fail
            refine (hp _).mono ?_
            rintro e w5 ⟨rfl, hb5⟩
            have hb5' : Hid _ := hb5
            clear hp hb5
            go_wp2
            obtain ⟨r1, r2, r3⟩ := hfin.out w4 (w5.alloc (.cells #[.int .i64 L, .int .i64 1023, .int .i64 sq] 26)) c' hc''.out hd4'.out hkp'.out (hb5'.out.alloc hb5'.out.size _)
            exact ⟨⟨k + 1, s.step (1000 + F - 60 + q), c', by omega, by omega, by go_num, by rw [hst.out.1], by rw [hst.out.2]; exact congrArg _ (by omega), r1, hstep.out, r2, r3⟩, by simp [intOf]; omega⟩
          · rw [show max (1000 + F - 60 + q) L = 1000 + F - 60 + q by omega] at hn hst
            have hp := fun w => parts_num (1000 + F - 60 + q) 1023 sq w (by omega) (by omega) (by omega) (by omega) sq0 sq1
            generalize numOf (1000 + F - 60 + q) 1023 sq = nv at *
            go_wp2_with fail
            refine (hq1 _).mono ?_
            rintro e w3 ⟨rfl, rfl⟩
            clear hq1
            go_wp2_with fail
            refine hn.mono ?_
            rintro e w4 ⟨rfl, c', hc', hd4, hkp⟩
            have hc'' : Hid _ := hc'
            have hd4' : Hid _ := hd4
            have hkp' : Hid _ := hkp
            clear hn hc' hd4 hkp
            go_wp2_with fail
            refine (hp _).mono ?_
            rintro e w5 ⟨rfl, hb5⟩
            have hb5' : Hid _ := hb5
            clear hp hb5
            go_wp2
            obtain ⟨r1, r2, r3⟩ := hfin.out w4 (w5.alloc (.cells #[.int .i64 (1000 + F - 60 + q), .int .i64 1023, .int .i64 sq] 26)) c' hc''.out hd4'.out hkp'.out (hb5'.out.alloc hb5'.out.size _)
            exact ⟨⟨k + 1, s.step (1000 + F - 60 + q), c', by omega, by omega, by go_num, by rw [hst.out.1], by rw [hst.out.2]; exact congrArg _ (by omega), r1, hstep.out, r2, r3⟩, by simp [intOf]; omega⟩
    · have hgv := hD.out.lay
      obtain ⟨made, _, hcl, _⟩ := hgv
      have hgiv := given_any b s.given wr hcl.c7
      rw [← hg'.out] at hgiv
      clear hcl
      by_cases hkl : k < len
      · have hk4 : ¬ k < 4000 := fun h => hlt ⟨hkl, h⟩
        clear hlt
        go_wp2_with fail
        refine hgiv.mono ?_
        rintro e w3 ⟨rfl, rfl⟩
        go_wp2
        go_ret
        exact ⟨rfl, hW.out⟩
      · clear hlt
        go_wp2_with fail
        refine hgiv.mono ?_
        rintro e w3 ⟨rfl, rfl⟩
        go_wp2
        go_ret
        exact ⟨rfl, hW.out⟩
end Go.Proofs.Ytdplffhieekfaaa
