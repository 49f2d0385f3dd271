/-
  stampskeep's fleet: a tick of the first kind.
-/
import Derived.Test.YtdplffhieekfaaaFleetSteps
import Derived.Test.YtdplffhieekfaaaQuietLast
namespace Go.Proofs.Ytdplffhieekfaaa
open Go.RowKit Go.Maps Go.Lib

/-- A fleet behind t ticks. -/
structure FleetInv (B : Nat) (W0 W : World) (X t : Nat) : Prop where
  mk ::
  ex : ∃ (F : FB) (rs : List (Nat × Nat)) (d : Nat → Fd) (bot : Nat → Int) (all : List Int), F.X = X ∧ FleetAt B W F rs d all ∧ FleetOk t rs d bot all ∧ (∀ k, k < 6 → bot k ≤ (d k).s.top) ∧ (∀ k, k < 6 → 0 ≤ (d k).last) ∧
    all.length ≤ 400 ∧ rs.length ≤ 6 + t ∧ 1 ≤ F.span ∧ F.span ≤ 50 ∧ Below B W0 W

theorem num_parts {t nd q : Int} (t0 : 0 ≤ t) (t1 : t < 2199023255552) (n0 : 0 ≤ nd) (n1 : nd < 1024) (q0 : 0 ≤ q) (q1 : q < 4096) : 0 ≤ numOf t nd q ∧ numOf t nd q < 9223372036854775808 ∧ numOf t nd q / 4096 % 1024 = nd ∧ numOf t nd q / 4194304 = t := by
  unfold numOf
  omega

theorem errOf_cases (s : Dk) (now : Int) : errOf s now = 0 ∨ errOf s now = 7 ∨ errOf s now = 8 := by
  unfold errOf
  split
  · simp
  · split <;> simp

theorem errOf_zero {s : Dk} {now : Int} (h : errOf s now = 0) : timeOf s now < s.to := by
  unfold errOf at h
  split at h
  · omega
  · omega

/-- A number that Next gives, as the fleet sees it. -/
theorem next_seen {t : Nat} {rs : List (Nat × Nat)} {d : Nat → Fd} {bot : Nat → Int} {all : List Int} (h : FleetOk t rs d bot all) (k : Nat) (hk : k < 6) (now : Int) (he : errOf (d k).s now = 0) :
    0 ≤ numOf (timeOf (d k).s now) (d k).s.node (seqOf (d k).s (timeOf (d k).s now)) ∧ numOf (timeOf (d k).s now) (d k).s.node (seqOf (d k).s (timeOf (d k).s now)) < 9223372036854775808 ∧
    numOf (timeOf (d k).s now) (d k).s.node (seqOf (d k).s (timeOf (d k).s now)) / 4096 % 1024 = ((k / 2 : Nat) : Int) ∧ (d k).s.frm ≤ numOf (timeOf (d k).s now) (d k).s.node (seqOf (d k).s (timeOf (d k).s now)) / 4194304 ∧ numOf (timeOf (d k).s now) (d k).s.node (seqOf (d k).s (timeOf (d k).s now)) / 4194304 < (d k).s.to := by
  have ok := h.ok k hk
  have g := timeOf_ge (d k).s now
  have q := seqOf_lt ok now
  have e := errOf_zero he
  have hp := num_parts (t := timeOf (d k).s now) (nd := (d k).s.node) (q := seqOf (d k).s (timeOf (d k).s now)) (by have := ok.f0; omega) (by have := ok.t1; omega) ok.n0 ok.n1 q.1 q.2
  rw [hp.2.2.1, hp.2.2.2]
  exact ⟨hp.1, hp.2.1, h.node k hk, by omega, e⟩

set_option maxRecDepth 100000 in
set_option maxHeartbeats 4000000 in
theorem tick1 {B : Nat} {W0 W : World} {X t : Nat} (h : FleetInv B W0 W X t) (ht : t ≤ 1048576) (A Bv : Int) (a1 : -9223372036854775808 ≤ A) (a2 : A ≤ 9223372036854775807) (b1 : -9223372036854775808 ≤ Bv) (b2 : Bv ≤ 9223372036854775807) :
    Calls Try.prog 19 #[.pointer (some ⟨X, 0, none⟩), .agg #[.int .i64 1, .int .i64 A, .int .i64 Bv]] W fun e w' => e = .returned (.bool true) ∧ FleetInv B W0 w' X (t + 1) := by
  obtain ⟨F, rs, d, bot, all, rfl, hA, hO, htop, hl0, h400, hrs, hs1, hs2, hbel⟩ := h.ex
  obtain ⟨k, hkp, hk⟩ : ∃ k : Nat, pickI A 6 = (k : Int) ∧ k < 6 := by
    have := pickI_bounds A 6 (by omega)
    exact ⟨(pickI A 6).toNat, by omega, by omega⟩
  have hk1 := fun w => pick_any A 6 w a1 a2 (by omega)
  rw [hkp] at hk1
  obtain ⟨p, hp, hp1⟩ : ∃ p : Nat, pickI Bv 41 = (p : Int) ∧ p < 41 := by
    have := pickI_bounds Bv 41 (by omega)
    exact ⟨(pickI Bv 41).toNat, by omega, by omega⟩
  have hk2 := fun w => pick_any Bv 41 w b1 b2 (by omega)
  rw [hp] at hk2
  obtain ⟨W1, hW1⟩ : ∃ W1, W1 = W.alloc (.cells #[.int .i64 1, .int .i64 A, .int .i64 Bv] 59) := ⟨_, rfl⟩
  have hA1 : FleetAt B W1 F rs d all := by rw [hW1]; exact hA.below ((Below.refl _ _).alloc (Nat.le_refl _) _)
  have y0 := hA1.but.x0 id
  have y2 := hA1.but.x2 id
  have d1 := hA1.but.rD id k hk
  have c1 := hA1.but.rC id k hk
  have z1 := hA1.but.zC id k hk
  have hclk := hO.clk k hk
  obtain ⟨C, hC⟩ : ∃ C, (d k).clk = C := ⟨_, rfl⟩
  rw [hC] at c1 hclk
  have hk6 : (k : Int) < 6 := by omega
  have hw1 : IntKind.i64.wrap (C + (p : Int)) = C + (p : Int) := by rw [IntKind.wrap_i64]; omega
  have hw2 : IntKind.i64.wrap (C + (p : Int) - 15) = C + (p : Int) - 15 := by rw [IntKind.wrap_i64]; omega
  rw [hW1] at y0 y2 d1 c1 z1
  replace hW1 : Hid _ := hW1
  replace hA1 : Hid _ := hA1
  replace hA : Hid _ := hA
  replace hO : Hid _ := hO
  replace htop : Hid _ := htop
  replace hC : Hid _ := hC
  clear h hkp hp
  go_enter Try.func19, Try.ntmps19
  go_wp2
  go_quiet ((go_at_call 11; exact Calls.quiet_of_same (hk1 _)))
  go_wp2
  obtain ⟨V, hV⟩ : ∃ V, V = (W.alloc (.cells #[.int .i64 1, .int .i64 A, .int .i64 Bv] 59)).drewN nq := ⟨_, rfl⟩
  have v2 : V.cell? ⟨F.X, 2, none⟩ = some (.slice (some ⟨F.gC, 0, none⟩) 6 F.cC) := by rw [hV]; exact y2
  have vc : V.cell? ⟨F.gC, k, none⟩ = some (.int .i64 C) := by rw [hV]; exact c1
  have vz : V.frozen? ⟨F.gC, k, none⟩ = false := by rw [hV]; exact z1
  have vt : V.cell? ⟨W.heap.size, 2, none⟩ = some (.int .i64 Bv) := by rw [hV]; exact (cell_alloc_new W #[.int .i64 1, .int .i64 A, .int .i64 Bv] 59 2).1
  rw [← hV]
  replace hV : Hid _ := hV
  clear y0 y2 d1 c1 z1
  refine wp_region_last_lit (by kernel_rfl) rfl rfl rfl (by kernel_rfl) (by kernel_rfl) (by kernel_rfl) ?_
  simp only [List.dropLast, List.getLastD, List.getLast, struck, List.cons_append, List.nil_append]
  repeat (go_big_quiet_step ((go_at_call 11; exact Calls.quiet_of_same (hk2 _))))
  refine wpQuiet_nil ?_
  intro _ hw'
  obtain ⟨nr, hw''⟩ := hw'
  subst hw''
  obtain ⟨now, hnow⟩ : ∃ now, now = C + (p : Int) - 15 := ⟨_, rfl⟩
  have hnb : -1000 - 15 * ((t + 1 : Nat) : Int) ≤ now ∧ now ≤ 2000 + 300 * ((t + 1 : Nat) : Int) := by omega
  have hAV : FleetAt B V F rs d all := by rw [hV.out, ← hW1.out]; exact hA1.out.below (below_drewN (Below.refl _ _) nq)
  have hA2 := hAV.wroteClock k now nr { d k with clk := now } rfl rfl rfl
  have hWs : W.heap.size < V.heap.size := by rw [hV.out]; simp [World.drewN]
  have u2 := hA2.but.x2 id
  have uc := hA2.but.rC id k hk
  have hdk := hA2.but.dsk k hk id id
  rw [upd_same] at uc hdk
  have hbV : Below B W0 ((V.drewN nr).setCell ⟨F.gC, k, none⟩ (.int .i64 now)) := by
    have hB := hA.out.base .own F.X rfl
    rw [hV.out]
    exact (below_drewN (below_drewN (hbel.alloc (by have := hbel.size; omega) _) nq) nr).setCell (hA.out.base .clocks F.gC rfl).1 _
  rw [← hnow]
  replace hA2 : Hid _ := hA2
  replace hAV : Hid _ := hAV
  replace hbV : Hid _ := hbV
  replace hbel : Hid _ := hbel
  replace hl0 : Hid _ := hl0
  replace hnb : Hid _ := hnb
  have hw0 : -9223372036854775808 ≤ now := by have := hnb.out; omega
  clear hw1 hw2 hnow hclk
  have hd0 : Hid (DeskAt ((V.drewN nr).setCell ⟨F.gC, k, none⟩ (.int .i64 now)) (F.dk k) (F.ch k) (d k).s) := hdk
  clear hdk
  by_cases he : errOf (d k).s now = 0
  · have hg := hO.out.given k hk
    have hseen := next_seen hO.out k hk now he
    have hnx := hd0.out.next_yes now hw0 he (by omega) (by omega)
    have hnt := next_top (hO.out.ok k hk) now
    obtain ⟨x, hx⟩ : ∃ x, x = numOf (timeOf (d k).s now) (d k).s.node (seqOf (d k).s (timeOf (d k).s now)) := ⟨_, rfl⟩
    rw [← hx] at hnx hseen hnt
    clear hx
    replace hnt : Hid _ := hnt
    replace hseen : Hid _ := hseen
    replace hg : Hid _ := hg
    clear he
    go_wp2_with fail
    refine hnx.mono ?_
    rintro e w5 ⟨rfl, c', hc', hd5, hk5⟩
    have hA5 := hA2.out.deskStep k hk hk5 c' hc' { s := (d k).s.step now, clk := now, last := (d k).last } hd5 (by rw [upd_same]) (by rw [upd_same])
    have hO5 := hO.out.asked k { s := (d k).s.step now, clk := now, last := (d k).last } rfl rfl rfl rfl rfl hd5.ok (by show 0 ≤ (d k).s.given + 1; have := hg.out; omega) (by show (d k).s.given + 1 ≤ _; have := hg.out; omega) hnb.out.1 hnb.out.2
    obtain ⟨D, hD⟩ : ∃ D, D = upd d k { s := (d k).s.step now, clk := now, last := (d k).last } := ⟨_, rfl⟩
    have hAD : FleetAt B w5 { F with ch := upd F.ch k c' } rs D all := by
      have e : upd (upd d k { d k with clk := now }) k { s := (d k).s.step now, clk := now, last := (d k).last } = D := by
        rw [hD]; funext i; unfold upd; split <;> rfl
      rw [← e]; exact hA5
    rw [← hD] at hO5
    have hDk : D k = { s := (d k).s.step now, clk := now, last := (d k).last } := by rw [hD, upd_same]
    have hgv := hO5.gave k hk x (by have := htop.out k hk; have := hnt.out.1; omega) hseen.out.2.2.1 (by rw [hDk]; exact hseen.out.2.2.2.1) (by rw [hDk]; exact hseen.out.2.2.2.2)
    have hgw := gave_walk hAD k hk x hseen.out.1 hseen.out.2.1 hseen.out.2.2.1 hgv.2.1 (by rw [hDk]; exact hl0.out k hk) hgv.1 h400
    have hb5 : Below B W0 w5 := hbV.out.trans (hk5.below (by have := hbV.out.size; have := (hA.out.base .own F.X rfl); have := hA2.out.base .own F.X rfl; omega) (fun i hi hs => by
      rcases hs with e | e
      · have := (hA.out.base (.desk k) (F.dk k) (if_pos hk)).1; omega
      · have := (hA.out.base (.chan k) i ((if_pos hk).trans e)).1; omega))
    replace hD : Hid _ := hD
    replace hDk : Hid _ := hDk
    replace hgv : Hid _ := hgv
    replace hb5 : Hid _ := hb5
    clear hA5 hO5 hd5 hnx hAD hc'
    go_wp2_with fail
    refine hgw.mono ?_
    rintro e w6 ⟨rfl, hG⟩
    replace hG : Hid _ := hG
    clear hgw
    go_wp2
    go_ret
    refine ⟨rfl, ?_⟩
    obtain ⟨v, all', ha, hal, hAt, hB6, _⟩ := hG.out.ex
    have hOk := hgv.out.2.2 all' ha
    refine ⟨{ F with ch := upd F.ch k c', vA := v }, rs, _, _, all', rfl, hAt, hOk, fun i hi => ?_, fun i hi => ?_, hal, by omega, hs1, hs2, hb5.out.trans hB6⟩
    · by_cases hi' : i = k
      · subst hi'
        rw [upd_same, upd_same, hDk.out]
        show x + 1 ≤ ((d i).s.step now).top
        rw [hnt.out.2]
        exact Int.le_refl _
      · rw [upd_other _ _ _ hi', upd_other _ _ _ hi', hD.out, upd_other _ _ _ hi']
        exact htop.out i hi
    · by_cases hi' : i = k
      · subst hi'
        rw [upd_same]
        exact hseen.out.1
      · rw [upd_other _ _ _ hi', hD.out, upd_other _ _ _ hi']
        exact hl0.out i hi
  · have hnx := hd0.out.next_no now hw0 he
    have hec : (errOf (d k).s now != 0) = true := by simpa using he
    have he78 := errOf_cases (d k).s now
    obtain ⟨er, her⟩ : ∃ er, er = errOf (d k).s now := ⟨_, rfl⟩
    rw [← her] at hnx hec he he78
    have hO2 := hO.out.asked k { d k with clk := now } rfl rfl rfl rfl rfl (hO.out.ok k hk) (by have := hO.out.given k hk; show 0 ≤ (d k).s.given; omega) (by have := hO.out.given k hk; show (d k).s.given ≤ _; omega) hnb.out.1 hnb.out.2
    have hfin : Hid (∀ n, FleetInv B W0 (((V.drewN nr).setCell ⟨F.gC, k, none⟩ (.int .i64 now)).drewN n) F.X (t + 1)) := fun n => by
      refine ⟨F, rs, _, bot, all, rfl, hA2.out.below (below_drewN (Below.refl _ _) n), hO2, fun i hi => ?_, fun i hi => ?_, h400, by omega, hs1, hs2, below_drewN hbV.out n⟩
      · by_cases hi' : i = k
        · subst hi'; rw [upd_same]; exact htop.out i hi
        · rw [upd_other _ _ _ hi']; exact htop.out i hi
      · by_cases hi' : i = k
        · subst hi'; rw [upd_same]; exact hl0.out i hi
        · rw [upd_other _ _ _ hi']; exact hl0.out i hi
    clear hO2 her
    have h78 : er = 7 ∨ er = 8 := by rcases he78 with h | h | h; exact absurd h he; exact Or.inl h; exact Or.inr h
    clear he78 he
    go_wp2_with fail
    refine hnx.mono ?_
    rintro e w5 ⟨rfl, n5, rfl⟩
    clear hnx
    rcases h78 with rfl | rfl
    all_goals
      go_wp2
      go_ret
      exact ⟨rfl, hfin.out n5⟩
end Go.Proofs.Ytdplffhieekfaaa
