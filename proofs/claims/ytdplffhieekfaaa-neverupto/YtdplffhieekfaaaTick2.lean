/-
  stampskeep's fleet: a tick of the second kind: a batch.
-/
import Derived.Test.YtdplffhieekfaaaTick0
namespace Go.Proofs.Ytdplffhieekfaaa
open Go.RowKit Go.Maps Go.Lib

/-- Between two rounds of a batch's loop. -/
structure BLoop (B : Nat) (W0 W : World) (X t k kb cnt : Nat) (rs : List (Nat × Nat)) (s s' : Dk) (now : Int) (sp i : Nat) : Prop where
  mk ::
  ex : ∃ (F : FB) (d : Nat → Fd) (bot : Nat → Int) (all : List Int), F.X = X ∧ F.span = sp ∧ FleetAt B W F rs d all ∧ FleetOk (t + 1) rs d bot all ∧ (∀ j, j < 6 → j ≠ k → bot j ≤ (d j).s.top) ∧ (d k).s = s' ∧ (i < cnt → bot k ≤ numAt s now i) ∧ bot k ≤ s'.top ∧
    (∀ j, j < 6 → 0 ≤ (d j).last) ∧ all.length ≤ 400 ∧ (∀ p, F.at p ≠ some kb) ∧ Below B W0 W
  row : RowAt W kb cnt (numAt s now)

theorem RowAt.on {w w' : World} {k n : Nat} {f : Nat → Int} (h : RowAt w k n f) (hb : w'.heap[k]? = w.heap[k]?) : RowAt w' k n f := by
  refine ⟨?_, fun j hj => (World.cell?_of_block (w := w) (a := ⟨k, j, none⟩) hb).trans (h.cell j hj), fun j => (World.frozen?_of_block (w := w) (a := ⟨k, j, none⟩) hb).trans (h.fz j)⟩
  have := h.lt
  rw [Array.getElem?_eq_getElem this] at hb
  exact (Array.getElem?_eq_some_iff.1 hb).1

theorem batchErr_cases {s : Dk} {now : Int} {n : Nat} (h : batchErr s now n ≠ 0) : batchErr s now n = 7 ∨ batchErr s now n = 8 := by
  unfold batchErr at h ⊢
  split at h
  · exact absurd rfl h
  · rename_i hh
    rw [if_neg hh]
    unfold errAt at h ⊢
    split at h
    · rename_i h1; rw [if_pos h1]; exact Or.inl rfl
    · rename_i h1
      rw [if_neg h1]
      split at h
      · rename_i h2; rw [if_pos h2]; exact Or.inr rfl
      · exact absurd rfl h

/-- The numbers of a batch, as the fleet sees them. -/
theorem batch_seen {s : Dk} (ok : s.Ok) (now : Int) (cnt i : Nat) (hi : i < cnt) (hl : timeAt s now (cnt - 1) < lidOf s now) :
    0 ≤ numAt s now i ∧ numAt s now i < 9223372036854775808 ∧ numAt s now i / 4096 % 1024 = s.node ∧ s.frm ≤ numAt s now i / 4194304 ∧ numAt s now i / 4194304 < s.to := by
  have g := timeOf_ge s now
  have q := seqOf_lt ok now
  have hm := timeAt_mono s now (i := i) (n := cnt - 1) (by omega)
  have hlid : lidOf s now ≤ s.to := by unfold lidOf; omega
  have ht0 : timeOf s now ≤ timeAt s now i := by unfold timeAt; omega
  have hq : 0 ≤ seqAt s now i ∧ seqAt s now i < 4096 := by unfold seqAt; omega
  have hp := num_parts (t := timeAt s now i) (nd := s.node) (q := seqAt s now i) (by have := ok.f0; omega) (by have := ok.t1; omega) ok.n0 ok.n1 hq.1 hq.2
  unfold numAt
  rw [hp.2.2.1, hp.2.2.2]
  exact ⟨hp.1, hp.2.1, rfl, by omega, by omega⟩

/-- A round without a number that is kept. -/
theorem BLoop.pass {B : Nat} {W0 W : World} {X t k kb cnt : Nat} {rs : List (Nat × Nat)} {s s' : Dk} {now : Int} {sp i : Nat} (h : BLoop B W0 W X t k kb cnt rs s s' now sp i) (hi : i < cnt) (n : Nat) : BLoop B W0 (W.drewN n) X t k kb cnt rs s s' now sp (i + 1) := by
  obtain ⟨F, d, bot, all, h1, h2, h3, h4, h5, h6, h7, h8, h9, h10, h11, h12⟩ := h.ex
  refine ⟨⟨F, d, bot, all, h1, h2, h3.below (below_drewN (Below.refl _ _) n), h4, h5, h6, fun _ => ?_, h8, h9, h10, h11, below_drewN h12 n⟩, h.row.on rfl⟩
  have := h7 hi
  have hr := num_rise (s := s) now i
  show bot k ≤ numOf _ _ _
  have e : numAt s now i = numOf (timeAt s now i) s.node (seqAt s now i) := rfl
  omega

/-- A round with a number that is kept. -/
theorem BLoop.gives {B : Nat} {W0 W : World} {X t k kb cnt : Nat} {rs : List (Nat × Nat)} {s s' : Dk} {now : Int} {sp i : Nat} (h : BLoop B W0 W X t k kb cnt rs s s' now sp i) (hk : k < 6) (hi : i < cnt) (ok : s.Ok) (hl : timeAt s now (cnt - 1) < lidOf s now)
    (hn : s.node = ((k / 2 : Nat) : Int)) (hf : s'.frm = s.frm) (ht : s'.to = s.to) (htop : s'.top = numAt s now (cnt - 1) + 1) (n : Nat) :
    Calls Try.prog 34 #[.pointer (some ⟨X, 0, none⟩), .int .i64 k, .int .u64 (numAt s now i)] (W.drewN n) fun e w' => e = .returned (.bool true) ∧ BLoop B W0 w' X t k kb cnt rs s s' now sp (i + 1) := by
  obtain ⟨F, d, bot, all, rfl, h2, h3, h4, h5, h6, h7, h8, h9, h10, h11, h12⟩ := h.ex
  obtain ⟨s1, s2, s3, s4, s5⟩ := batch_seen ok now cnt i hi hl
  have hA := h3.below (below_drewN (Below.refl _ W) n)
  have hg := h4.gave k hk (numAt s now i) (h7 hi) (by rw [s3, hn]) (by rw [h6, hf]; exact s4) (by rw [h6, ht]; exact s5)
  refine (gave_walk hA k hk (numAt s now i) s1 s2 (by rw [s3, hn]) hg.2.1 (h9 k hk) hg.1 h10).mono ?_
  rintro e w' ⟨he, hG⟩
  refine ⟨he, ?_⟩
  obtain ⟨v, all', ha, hal, hAt, hB6, hv, hkeep⟩ := hG.ex
  have hOk := hg.2.2 all' ha
  refine ⟨⟨{ F with vA := v }, _, _, all', rfl, h2, hAt, hOk, fun j hj hne => ?_, ?_, fun hi1 => ?_, ?_, fun j hj => ?_, hal, fun p hp => ?_, (below_drewN h12 n).trans hB6⟩, h.row.on (hkeep kb h.row.lt h11)⟩
  · rw [upd_other _ _ _ hne, upd_other _ _ _ hne]; exact h5 j hj hne
  · rw [upd_same]; exact h6
  · rw [upd_same]
    have hr := num_rise (s := s) now i
    show numAt s now i + 1 ≤ numOf _ _ _
    have e : numAt s now i = numOf (timeAt s now i) s.node (seqAt s now i) := rfl
    omega
  · rw [upd_same, htop]
    by_cases e : i = cnt - 1
    · rw [e]; exact Int.le_refl _
    · have := num_mono (s := s) now i (cnt - 1) (by omega)
      have e1 : numAt s now i = numOf (timeAt s now i) s.node (seqAt s now i) := rfl
      have e2 : numAt s now (cnt - 1) = numOf (timeAt s now (cnt - 1)) s.node (seqAt s now (cnt - 1)) := rfl
      omega
  · by_cases hj' : j = k
    · subst hj'; rw [upd_same]; exact s1
    · rw [upd_other _ _ _ hj']; exact h9 j hj
  · cases p with
    | all =>
      have hp' : v.ownBlock = some kb := hp
      rcases hv with e | ⟨z, hz, e⟩
      · exact h11 .all (by show F.vA.ownBlock = _; rw [← e]; exact hp')
      · rw [e] at hp'; cases hp'
        have := h.row.lt
        have hz' : W.heap.size ≤ kb := hz
        omega
    | own => exact h11 .own hp
    | desks => exact h11 .desks hp
    | nodes => exact h11 .nodes hp
    | clocks => exact h11 .clocks hp
    | last => exact h11 .last hp
    | office => exact h11 .office hp
    | map => exact h11 .map hp
    | row => exact h11 .row hp
    | desk i => exact h11 (.desk i) hp
    | chan i => exact h11 (.chan i) hp

set_option maxRecDepth 100000 in
set_option maxHeartbeats 4000000 in
theorem tick2 {B : Nat} {W0 W : World} {X t : Nat} (h : FleetInv B W0 W X t) (ht : t ≤ 1048576) (A Bv : Int) (a1 : -9223372036854775808 ≤ A) (a2 : A ≤ 9223372036854775807) (b1 : -9223372036854775808 ≤ Bv) (b2 : Bv ≤ 9223372036854775807) :
    Calls Try.prog 19 #[.pointer (some ⟨X, 0, none⟩), .agg #[.int .i64 2, .int .i64 A, .int .i64 Bv]] W fun e w' => e = .returned (.bool true) ∧ FleetInv B W0 w' X (t + 1) := by
  obtain ⟨F, rs, d, bot, all, rfl, hA, hO, htop, hl0, h400, hrs, hs1, hs2, hbel⟩ := h.ex
  obtain ⟨k, hkp, hk⟩ : ∃ k : Nat, pickI A 6 = (k : Int) ∧ k < 6 := by
    have := pickI_bounds A 6 (by omega)
    exact ⟨(pickI A 6).toNat, by omega, by omega⟩
  have hk1 := fun w => pick_any A 6 w a1 a2 (by omega)
  rw [hkp] at hk1
  obtain ⟨p, hp, hp1⟩ : ∃ p : Nat, pickI Bv 60 = (p : Int) ∧ p < 60 := by
    have := pickI_bounds Bv 60 (by omega)
    exact ⟨(pickI Bv 60).toNat, by omega, by omega⟩
  have hk2 := fun w => pick_any Bv 60 w b1 b2 (by omega)
  rw [hp] at hk2
  obtain ⟨r, hr, hr1⟩ : ∃ r : Nat, pickI Bv 11 = (r : Int) ∧ r < 11 := by
    have := pickI_bounds Bv 11 (by omega)
    exact ⟨(pickI Bv 11).toNat, by omega, by omega⟩
  have hk3 := fun w => pick_any Bv 11 w b1 b2 (by omega)
  rw [hr] at hk3
  obtain ⟨W1, hW1⟩ : ∃ W1, W1 = W.alloc (.cells #[.int .i64 2, .int .i64 A, .int .i64 Bv] 59) := ⟨_, rfl⟩
  have hA1 : FleetAt B W1 F rs d all := by rw [hW1]; exact hA.below ((Below.refl _ _).alloc (Nat.le_refl _) _)
  have y0 := hA1.but.x0 id
  have d1 := hA1.but.rD id k hk
  have hk6 : (k : Int) < 6 := by omega
  rw [hW1] at y0 d1
  replace hW1 : Hid _ := hW1
  replace hA1 : Hid _ := hA1
  replace hA : Hid _ := hA
  replace hO : Hid _ := hO
  replace htop : Hid _ := htop
  clear h hkp hp hr
  go_enter Try.func19, Try.ntmps19
  go_wp2
  go_quiet ((go_at_call 11; exact Calls.quiet_of_same (hk1 _)))
  obtain ⟨V, hV⟩ : ∃ V, V = (W.alloc (.cells #[.int .i64 2, .int .i64 A, .int .i64 Bv] 59)).drewN nq := ⟨_, rfl⟩
  have v0 : V.cell? ⟨F.X, 0, none⟩ = some (.slice (some ⟨F.gD, 0, none⟩) 6 F.cD) := by rw [hV]; exact y0
  have vd : V.cell? ⟨F.gD, k, none⟩ = some (.pointer (some ⟨F.dk k, 0, none⟩)) := by rw [hV]; exact d1
  have vt0 : V.cell? ⟨W.heap.size, 0, none⟩ = some (.int .i64 2) := by rw [hV]; exact (cell_alloc_new W #[.int .i64 2, .int .i64 A, .int .i64 Bv] 59 0).1
  have vt : V.cell? ⟨W.heap.size, 2, none⟩ = some (.int .i64 Bv) := by rw [hV]; exact (cell_alloc_new W #[.int .i64 2, .int .i64 A, .int .i64 Bv] 59 2).1
  rw [← hV]
  have hAV : FleetAt B V F rs d all := by rw [hV, ← hW1.out]; exact hA1.out.below (below_drewN (Below.refl _ _) nq)
  have hbV : Below B W0 V := by
    rw [hV]
    exact below_drewN (hbel.alloc (by have := hbel.size; have := hA.out.base .own F.X rfl; omega) _) nq
  have v2 := hAV.but.x2 id
  have vc := hAV.but.rC id k hk
  have hdk := hAV.but.dsk k hk id id
  have hclk := hO.out.clk k hk
  obtain ⟨now, hnow⟩ : ∃ now, (d k).clk = now := ⟨_, rfl⟩
  rw [hnow] at vc hclk
  replace hV : Hid _ := hV
  replace hAV : Hid _ := hAV
  replace hbV : Hid _ := hbV
  replace hbel : Hid _ := hbel
  replace hdk : Hid _ := hdk
  replace hl0 : Hid _ := hl0
  replace hclk : Hid _ := hclk
  replace hnow : Hid _ := hnow
  clear y0 d1
  have hw0 : -9223372036854775808 ≤ now := by have := hclk.out; omega
  go_wp2_with fail
  refine (hk2 _).mono ?_
  rintro e w4 ⟨rfl, rfl⟩
  clear hk2
  go_wp2_with fail
  refine (hk3 _).mono ?_
  rintro e w4 ⟨rfl, rfl⟩
  clear hk3
  by_cases hr0 : r = 0
  · have hrb : ((r : Int) == 0) = true := by simp; omega
    clear hr0
    go_wp2_with fail
    generalize hM : (4000 : Int) = M
    obtain ⟨cnt, hcM, c0, c1⟩ : ∃ cnt : Nat, M = (cnt : Int) ∧ 1 ≤ cnt ∧ cnt ≤ 4000 := ⟨4000, hM.symm, by omega, by omega⟩
    subst hcM
    clear hM
    have hg := hO.out.given k hk
    by_cases hlid : timeAt (d k).s now (cnt - 1) < lidOf (d k).s now
    · have hbt := hdk.out.batch_yes now cnt hw0 c0 (by omega) hlid hg.1 (by omega)
      refine hbt.mono ?_
      rintro e w5 ⟨kb, hkb, rfl, hrow, ⟨c', hc', hd5⟩, hk5⟩
      have ok := hO.out.ok k hk
      have hsame := run_same (d k).s now cnt
      obtain ⟨s', hs'⟩ : ∃ s' : Dk, s' = { (d k).s.run now cnt with given := (d k).s.given + cnt } := ⟨_, rfl⟩
      rw [← hs'] at hd5
      have q1 : s'.node = (d k).s.node := by rw [hs']; exact hsame.1
      have q2 : s'.frm = (d k).s.frm := by rw [hs']; exact hsame.2.1
      have q3 : s'.to = (d k).s.to := by rw [hs']; exact hsame.2.2.1
      have q4 : s'.brw = (d k).s.brw := by rw [hs']; exact hsame.2.2.2.1
      have q5 : s'.given = (d k).s.given + cnt := by rw [hs']
      have q6 : s'.top = numAt (d k).s now (cnt - 1) + 1 := by
        have := run_top ok now (cnt - 1)
        rw [show cnt - 1 + 1 = cnt from by omega] at this
        rw [hs']
        exact this
      have hA5 := hAV.out.deskStep k hk hk5 c' hc' { s := s', clk := (d k).clk, last := (d k).last } hd5 rfl rfl
      have hO5 := hO.out.asked k { s := s', clk := (d k).clk, last := (d k).last } q1 q2 q3 q4 rfl hd5.ok (by show 0 ≤ s'.given; omega) (by show s'.given ≤ _; omega) (by have := hclk.out; have := hnow.out; show _ ≤ (d k).clk; omega) (by have := hclk.out; have := hnow.out; show (d k).clk ≤ _; omega)
      have hn0 := next_top ok now
      have hz0 : numAt (d k).s now 0 = numOf (timeOf (d k).s now) (d k).s.node (seqOf (d k).s (timeOf (d k).s now)) := numAt_zero ok now
      have hbk := htop.out k hk
      have h0l : numAt (d k).s now 0 ≤ numAt (d k).s now (cnt - 1) := by
        by_cases e : cnt - 1 = 0
        · rw [e]; exact Int.le_refl _
        · have := num_mono (s := (d k).s) now 0 (cnt - 1) (by omega)
          have e1 : numAt (d k).s now 0 = numOf (timeAt (d k).s now 0) (d k).s.node (seqAt (d k).s now 0) := rfl
          have e2 : numAt (d k).s now (cnt - 1) = numOf (timeAt (d k).s now (cnt - 1)) (d k).s.node (seqAt (d k).s now (cnt - 1)) := rfl
          omega
      have hb5 : Below B W0 w5 := hbV.out.trans (hk5.below (by have := hbV.out.size; have := (hAV.out.base .own F.X rfl); omega) (fun i hi hs => by
        rcases hs with e | e
        · have := (hAV.out.base (.desk k) (F.dk k) (if_pos hk)).1; omega
        · have := (hAV.out.base (.chan k) i ((if_pos hk).trans e)).1; omega))
      have hnp : ∀ p, ({ F with ch := upd F.ch k c' } : FB).at p ≠ some kb := fun p hp => by
        have hold : ∀ q, F.at q ≠ some kb := fun q hq => by have := (hAV.out.base q kb hq).2; omega
        cases p with
        | own => exact hold .own hp
        | desks => exact hold .desks hp
        | nodes => exact hold .nodes hp
        | clocks => exact hold .clocks hp
        | last => exact hold .last hp
        | all => exact hold .all hp
        | office => exact hold .office hp
        | map => exact hold .map hp
        | row => exact hold .row hp
        | desk i => exact hold (.desk i) hp
        | chan i =>
          by_cases hi : i = k
          · subst hi
            have hp' : c' = some kb := by
              have : (if i < 6 then upd F.ch i c' i else none) = some kb := hp
              rw [if_pos hk, upd_same] at this
              exact this
            subst hp'
            obtain ⟨_, made, _, _, buf, sn, rc, hch, _⟩ := hd5
            have := hrow.cell 0 (by omega)
            simp [World.cell?, hch] at this
          · have : (if i < 6 then upd F.ch k c' i else none) = some kb := hp
            rw [upd_other _ _ _ hi] at this
            exact hold (.chan i) this
      have hloop : BLoop B W0 w5 F.X t k kb cnt rs (d k).s s' now F.span 0 := by
        refine ⟨⟨{ F with ch := upd F.ch k c' }, _, bot, all, rfl, rfl, hA5, hO5, fun j hj hne => ?_, by rw [upd_same], fun _ => ?_, ?_, fun j hj => ?_, h400, hnp, hb5⟩, hrow⟩
        · rw [upd_other _ _ _ hne]; exact htop.out j hj
        · omega
        · omega
        · by_cases hj' : j = k
          · subst hj'; rw [upd_same]; exact hl0.out j hj
          · rw [upd_other _ _ _ hj']; exact hl0.out j hj
      have hgive := fun (W' : World) (i : Nat) (hB : BLoop B W0 W' F.X t k kb cnt rs (d k).s s' now F.span i) (hi : i < cnt) (n : Nat) => hB.gives hk hi ok hlid (hO.out.node k hk) q2 q3 q6 n
      replace hloop : Hid _ := hloop
      replace hgive : Hid _ := hgive
      replace hlid : Hid _ := hlid
      clear hbt hsame hs' q1 q2 q3 q4 q5 q6 hA5 hO5 hn0 hz0 hbk h0l hnp hd5 hk5 hc' hrow hg
      obtain ⟨f, hf⟩ : ∃ f, f = numAt (d k).s now := ⟨_, rfl⟩
      have hrise : Hid (∀ i, f i < f (i + 1)) := fun i => by rw [hf]; exact num_rise now i
      go_wp2
      go_loopw [12] (fun i W' => ∃ j : Nat, i = .int .i64 (j : Int) ∧ j ≤ cnt ∧ Hid (BLoop B W0 W' F.X t k kb cnt rs (d k).s s' now F.span j)) (fun i _ => cnt - (RowKit.intOf i).toNat)
      case atStart => exact ⟨0, rfl, Nat.zero_le _, hloop⟩
      case round =>
        obtain ⟨j, rfl, hj, hBL⟩ := hrel
        by_cases hlt : j < cnt
        · have hgv := hgive.out wr j hBL.out hlt
          have cj := hBL.out.row.cell j hlt
          rw [← hf] at cj hgv
          have hlt' : (j : Int) < (cnt : Int) := by omega
          rcases Nat.eq_zero_or_pos j with rfl | hpos
          · clear hf
            go_wp2
            go_quiet (fail)
            go_wp2_with fail
            refine (hgv _).mono ?_
            rintro e w6 ⟨rfl, hB6⟩
            replace hB6 : Hid _ := hB6
            clear hgv
            go_wp2
            exact ⟨⟨1, by simp, by omega, hB6⟩, by simp [RowKit.intOf]; omega⟩
          · obtain ⟨m, rfl⟩ : ∃ m, j = m + 1 := ⟨j - 1, by omega⟩
            have cm := hBL.out.row.cell m (by omega)
            rw [← hf] at cm
            have hd1 : decide (f (m + 1) ≤ f m) = false := decide_eq_false (by have := hrise.out m; omega)
            have hd0 : decide ((0 : Int) < (m : Int) + 1) = true := decide_eq_true (by omega)
            have hpass := hBL.out.pass hlt
            replace hpass : Hid _ := hpass
            have hgi : 0 ≤ (m : Int) := by omega
            clear hf hpos
            by_cases h3 : m + 1 < 3
            · have h3' : (m : Int) + 1 < 3 := by omega
              go_wp2
              go_quiet (fail)
              go_wp2_with fail
              refine (hgv _).mono ?_
              rintro e w6 ⟨rfl, hB6⟩
              replace hB6 : Hid _ := hB6
              clear hgv
              go_wp2
              exact ⟨⟨m + 2, by simp; omega, by omega, hB6⟩, by simp [RowKit.intOf]; omega⟩
            · have h3' : (3 : Int) ≤ (m : Int) + 1 := by omega
              by_cases hm : cnt < m + 1 + 3
              · have hm' : (cnt : Int) < (m : Int) + 1 + 3 := by omega
                go_wp2
                go_quiet (fail)
                go_wp2_with fail
                refine (hgv _).mono ?_
                rintro e w6 ⟨rfl, hB6⟩
                replace hB6 : Hid _ := hB6
                clear hgv
                go_wp2
                exact ⟨⟨m + 2, by simp; omega, by omega, hB6⟩, by simp [RowKit.intOf]; omega⟩
              · have hm' : (m : Int) + 1 + 3 ≤ (cnt : Int) := by omega
                clear hgv
                go_wp2
                go_quiet (fail)
                go_wp2
                exact ⟨⟨m + 2, by simp; omega, by omega, hpass.out _⟩, by simp [RowKit.intOf]; omega⟩
        · have hlt' : (cnt : Int) ≤ (j : Int) := by omega
          have hfin : Hid (FleetInv B W0 wr F.X (t + 1)) := by
            obtain ⟨F', d', bot', all', h1, h2, h3, h4, h5, h6, h7, h8, h9, h10, h11, h12⟩ := hBL.out.ex
            refine ⟨F', rs, d', bot', all', h1, h3, h4, fun i hi => ?_, h9, h10, by omega, by omega, by omega, h12⟩
            by_cases hi' : i = k
            · subst hi'; rw [h6]; exact h8
            · exact h5 i hi hi'
          clear hf
          go_wp2
          go_ret
          exact ⟨rfl, hfin.out⟩
    · have he := batchErr_ne hlid
      have hbt := hdk.out.batch_no now cnt hw0 c0 (by omega) he
      have h78 := batchErr_cases he
      have hec : (batchErr (d k).s now cnt != 0) = true := by simpa using he
      have hfin : Hid (∀ n, FleetInv B W0 (w4.drewN n) F.X (t + 1)) := fun n => ⟨F, rs, d, bot, all, rfl, hAV.out.below (below_drewN (Below.refl _ _) n), hO.out.later, htop.out, hl0.out, h400, by omega, hs1, hs2, below_drewN hbV.out n⟩
      generalize batchErr (d k).s now cnt = er at *
      clear he hlid
      refine hbt.mono ?_
      rintro e w5 ⟨rfl, n5, rfl⟩
      clear hbt
      rcases h78 with rfl | rfl
      all_goals
        go_wp2
        go_ret
        exact ⟨rfl, hfin.out n5⟩
  · have hrb : ((r : Int) == 0) = false := by simp; omega
    clear hr0
    go_wp2_with fail
    generalize hM : (1 + (p : Int)) = M
    obtain ⟨cnt, hcM, c0, c1⟩ : ∃ cnt : Nat, M = (cnt : Int) ∧ 1 ≤ cnt ∧ cnt ≤ 4000 := ⟨1 + p, by omega, by omega, by omega⟩
    subst hcM
    clear hM
    have hg := hO.out.given k hk
    by_cases hlid : timeAt (d k).s now (cnt - 1) < lidOf (d k).s now
    · have hbt := hdk.out.batch_yes now cnt hw0 c0 (by omega) hlid hg.1 (by omega)
      refine hbt.mono ?_
      rintro e w5 ⟨kb, hkb, rfl, hrow, ⟨c', hc', hd5⟩, hk5⟩
      have ok := hO.out.ok k hk
      have hsame := run_same (d k).s now cnt
      obtain ⟨s', hs'⟩ : ∃ s' : Dk, s' = { (d k).s.run now cnt with given := (d k).s.given + cnt } := ⟨_, rfl⟩
      rw [← hs'] at hd5
      have q1 : s'.node = (d k).s.node := by rw [hs']; exact hsame.1
      have q2 : s'.frm = (d k).s.frm := by rw [hs']; exact hsame.2.1
      have q3 : s'.to = (d k).s.to := by rw [hs']; exact hsame.2.2.1
      have q4 : s'.brw = (d k).s.brw := by rw [hs']; exact hsame.2.2.2.1
      have q5 : s'.given = (d k).s.given + cnt := by rw [hs']
      have q6 : s'.top = numAt (d k).s now (cnt - 1) + 1 := by
        have := run_top ok now (cnt - 1)
        rw [show cnt - 1 + 1 = cnt from by omega] at this
        rw [hs']
        exact this
      have hA5 := hAV.out.deskStep k hk hk5 c' hc' { s := s', clk := (d k).clk, last := (d k).last } hd5 rfl rfl
      have hO5 := hO.out.asked k { s := s', clk := (d k).clk, last := (d k).last } q1 q2 q3 q4 rfl hd5.ok (by show 0 ≤ s'.given; omega) (by show s'.given ≤ _; omega) (by have := hclk.out; have := hnow.out; show _ ≤ (d k).clk; omega) (by have := hclk.out; have := hnow.out; show (d k).clk ≤ _; omega)
      have hn0 := next_top ok now
      have hz0 : numAt (d k).s now 0 = numOf (timeOf (d k).s now) (d k).s.node (seqOf (d k).s (timeOf (d k).s now)) := numAt_zero ok now
      have hbk := htop.out k hk
      have h0l : numAt (d k).s now 0 ≤ numAt (d k).s now (cnt - 1) := by
        by_cases e : cnt - 1 = 0
        · rw [e]; exact Int.le_refl _
        · have := num_mono (s := (d k).s) now 0 (cnt - 1) (by omega)
          have e1 : numAt (d k).s now 0 = numOf (timeAt (d k).s now 0) (d k).s.node (seqAt (d k).s now 0) := rfl
          have e2 : numAt (d k).s now (cnt - 1) = numOf (timeAt (d k).s now (cnt - 1)) (d k).s.node (seqAt (d k).s now (cnt - 1)) := rfl
          omega
      have hb5 : Below B W0 w5 := hbV.out.trans (hk5.below (by have := hbV.out.size; have := (hAV.out.base .own F.X rfl); omega) (fun i hi hs => by
        rcases hs with e | e
        · have := (hAV.out.base (.desk k) (F.dk k) (if_pos hk)).1; omega
        · have := (hAV.out.base (.chan k) i ((if_pos hk).trans e)).1; omega))
      have hnp : ∀ p, ({ F with ch := upd F.ch k c' } : FB).at p ≠ some kb := fun p hp => by
        have hold : ∀ q, F.at q ≠ some kb := fun q hq => by have := (hAV.out.base q kb hq).2; omega
        cases p with
        | own => exact hold .own hp
        | desks => exact hold .desks hp
        | nodes => exact hold .nodes hp
        | clocks => exact hold .clocks hp
        | last => exact hold .last hp
        | all => exact hold .all hp
        | office => exact hold .office hp
        | map => exact hold .map hp
        | row => exact hold .row hp
        | desk i => exact hold (.desk i) hp
        | chan i =>
          by_cases hi : i = k
          · subst hi
            have hp' : c' = some kb := by
              have : (if i < 6 then upd F.ch i c' i else none) = some kb := hp
              rw [if_pos hk, upd_same] at this
              exact this
            subst hp'
            obtain ⟨_, made, _, _, buf, sn, rc, hch, _⟩ := hd5
            have := hrow.cell 0 (by omega)
            simp [World.cell?, hch] at this
          · have : (if i < 6 then upd F.ch k c' i else none) = some kb := hp
            rw [upd_other _ _ _ hi] at this
            exact hold (.chan i) this
      have hloop : BLoop B W0 w5 F.X t k kb cnt rs (d k).s s' now F.span 0 := by
        refine ⟨⟨{ F with ch := upd F.ch k c' }, _, bot, all, rfl, rfl, hA5, hO5, fun j hj hne => ?_, by rw [upd_same], fun _ => ?_, ?_, fun j hj => ?_, h400, hnp, hb5⟩, hrow⟩
        · rw [upd_other _ _ _ hne]; exact htop.out j hj
        · omega
        · omega
        · by_cases hj' : j = k
          · subst hj'; rw [upd_same]; exact hl0.out j hj
          · rw [upd_other _ _ _ hj']; exact hl0.out j hj
      have hgive := fun (W' : World) (i : Nat) (hB : BLoop B W0 W' F.X t k kb cnt rs (d k).s s' now F.span i) (hi : i < cnt) (n : Nat) => hB.gives hk hi ok hlid (hO.out.node k hk) q2 q3 q6 n
      replace hloop : Hid _ := hloop
      replace hgive : Hid _ := hgive
      replace hlid : Hid _ := hlid
      clear hbt hsame hs' q1 q2 q3 q4 q5 q6 hA5 hO5 hn0 hz0 hbk h0l hnp hd5 hk5 hc' hrow hg
      obtain ⟨f, hf⟩ : ∃ f, f = numAt (d k).s now := ⟨_, rfl⟩
      have hrise : Hid (∀ i, f i < f (i + 1)) := fun i => by rw [hf]; exact num_rise now i
      go_wp2
      go_loopw [12] (fun i W' => ∃ j : Nat, i = .int .i64 (j : Int) ∧ j ≤ cnt ∧ Hid (BLoop B W0 W' F.X t k kb cnt rs (d k).s s' now F.span j)) (fun i _ => cnt - (RowKit.intOf i).toNat)
      case atStart => exact ⟨0, rfl, Nat.zero_le _, hloop⟩
      case round =>
        obtain ⟨j, rfl, hj, hBL⟩ := hrel
        by_cases hlt : j < cnt
        · have hgv := hgive.out wr j hBL.out hlt
          have cj := hBL.out.row.cell j hlt
          rw [← hf] at cj hgv
          have hlt' : (j : Int) < (cnt : Int) := by omega
          rcases Nat.eq_zero_or_pos j with rfl | hpos
          · clear hf
            go_wp2
            go_quiet (fail)
            go_wp2_with fail
            refine (hgv _).mono ?_
            rintro e w6 ⟨rfl, hB6⟩
            replace hB6 : Hid _ := hB6
            clear hgv
            go_wp2
            exact ⟨⟨1, by simp, by omega, hB6⟩, by simp [RowKit.intOf]; omega⟩
          · obtain ⟨m, rfl⟩ : ∃ m, j = m + 1 := ⟨j - 1, by omega⟩
            have cm := hBL.out.row.cell m (by omega)
            rw [← hf] at cm
            have hd1 : decide (f (m + 1) ≤ f m) = false := decide_eq_false (by have := hrise.out m; omega)
            have hd0 : decide ((0 : Int) < (m : Int) + 1) = true := decide_eq_true (by omega)
            have hpass := hBL.out.pass hlt
            replace hpass : Hid _ := hpass
            have hgi : 0 ≤ (m : Int) := by omega
            clear hf hpos
            by_cases h3 : m + 1 < 3
            · have h3' : (m : Int) + 1 < 3 := by omega
              go_wp2
              go_quiet (fail)
              go_wp2_with fail
              refine (hgv _).mono ?_
              rintro e w6 ⟨rfl, hB6⟩
              replace hB6 : Hid _ := hB6
              clear hgv
              go_wp2
              exact ⟨⟨m + 2, by simp; omega, by omega, hB6⟩, by simp [RowKit.intOf]; omega⟩
            · have h3' : (3 : Int) ≤ (m : Int) + 1 := by omega
              by_cases hm : cnt < m + 1 + 3
              · have hm' : (cnt : Int) < (m : Int) + 1 + 3 := by omega
                go_wp2
                go_quiet (fail)
                go_wp2_with fail
                refine (hgv _).mono ?_
                rintro e w6 ⟨rfl, hB6⟩
                replace hB6 : Hid _ := hB6
                clear hgv
                go_wp2
                exact ⟨⟨m + 2, by simp; omega, by omega, hB6⟩, by simp [RowKit.intOf]; omega⟩
              · have hm' : (m : Int) + 1 + 3 ≤ (cnt : Int) := by omega
                clear hgv
                go_wp2
                go_quiet (fail)
                go_wp2
                exact ⟨⟨m + 2, by simp; omega, by omega, hpass.out _⟩, by simp [RowKit.intOf]; omega⟩
        · have hlt' : (cnt : Int) ≤ (j : Int) := by omega
          have hfin : Hid (FleetInv B W0 wr F.X (t + 1)) := by
            obtain ⟨F', d', bot', all', h1, h2, h3, h4, h5, h6, h7, h8, h9, h10, h11, h12⟩ := hBL.out.ex
            refine ⟨F', rs, d', bot', all', h1, h3, h4, fun i hi => ?_, h9, h10, by omega, by omega, by omega, h12⟩
            by_cases hi' : i = k
            · subst hi'; rw [h6]; exact h8
            · exact h5 i hi hi'
          clear hf
          go_wp2
          go_ret
          exact ⟨rfl, hfin.out⟩
    · have he := batchErr_ne hlid
      have hbt := hdk.out.batch_no now cnt hw0 c0 (by omega) he
      have h78 := batchErr_cases he
      have hec : (batchErr (d k).s now cnt != 0) = true := by simpa using he
      have hfin : Hid (∀ n, FleetInv B W0 (w4.drewN n) F.X (t + 1)) := fun n => ⟨F, rs, d, bot, all, rfl, hAV.out.below (below_drewN (Below.refl _ _) n), hO.out.later, htop.out, hl0.out, h400, by omega, hs1, hs2, below_drewN hbV.out n⟩
      generalize batchErr (d k).s now cnt = er at *
      clear he hlid
      refine hbt.mono ?_
      rintro e w5 ⟨rfl, n5, rfl⟩
      clear hbt
      rcases h78 with rfl | rfl
      all_goals
        go_wp2
        go_ret
        exact ⟨rfl, hfin.out n5⟩
end Go.Proofs.Ytdplffhieekfaaa
