/-
  stampskeep's fleet: a tick of the third kind: another lease.
-/
import Derived.Test.YtdplffhieekfaaaTick4
import Derived.Deep.Cut
import Derived.Deep.RegionWith
namespace Go.Proofs.Ytdplffhieekfaaa
open Go.RowKit Go.Maps Go.Lib

/-- While the blocks of its parts stay. -/
theorem FleetAt.other {B : Nat} {W W' : World} {F : FB} {rs : List (Nat × Nat)} {d : Nat → Fd} {all : List Int} (h : FleetAt B W F rs d all) (hk : ∀ p z, F.at p = some z → W'.heap[z]? = W.heap[z]?) (hs : W.heap.size ≤ W'.heap.size) : FleetAt B W' F rs d all := by
  have hn := h.but.on (W' := W') (R' := none') (fun p x hp _ => hk p x hp)
  exact ⟨⟨fun _ => hn.x0 (fun e => e.elim id id), fun _ => hn.x1 (fun e => e.elim id id), fun _ => hn.x2 (fun e => e.elim id id), fun _ => hn.x3 (fun e => e.elim id id), fun _ => hn.x4 (fun e => e.elim id id), fun _ => hn.x5 (fun e => e.elim id id), fun _ => hn.xz (fun e => e.elim id id),
    fun _ => hn.rD (fun e => e.elim id id), fun _ => hn.rN (fun e => e.elim id id), fun _ => hn.rC (fun e => e.elim id id), fun _ => hn.zC (fun e => e.elim id id), fun _ => hn.rT (fun e => e.elim id id), fun _ => hn.zT (fun e => e.elim id id), fun _ => hn.rA (fun e => e.elim id id),
    fun k hk _ _ => hn.dsk k hk (fun e => e.elim id id) (fun e => e.elim id id), fun _ _ _ => hn.off (fun e => e.elim id id) (fun e => e.elim id id) (fun e => e.elim id id)⟩, h.apart, fun p x hp => ⟨(h.base p x hp).1, Nat.lt_of_lt_of_le (h.base p x hp).2 hs⟩⟩

/-- Behind the lease of a tick of the third kind: the office has one record more; the lease lies in block L. -/
structure R3 (B : Nat) (W0 wx : World) (F : FB) (rs : List (Nat × Nat)) (d : Nat → Fd) (all : List Int) (k fr L : Nat) (nd : Int) : Prop where
  mk ::
  fl : ∃ g cap, FleetAt B wx { F with g := g, cap := cap } (rs ++ [(k / 2, fr + F.span)]) d all
  np : L ≠ F.dk k
  c0 : wx.cell? ⟨L, 0, none⟩ = some (.int .i64 nd)
  c1 : wx.cell? ⟨L, 1, none⟩ = some (.int .i64 fr)
  c2 : wx.cell? ⟨L, 2, none⟩ = some (.int .i64 ((fr : Int) + (F.span : Int)))
  bel : Below B W0 wx

theorem leased_below {B : Nat} {W0 V w5 : World} {F : FB} {rs : List (Nat × Nat)} {d : Nat → Fd} {all : List Int} {node fr : Nat} (hA : FleetAt B V F rs d all) (hb : Below B W0 V) (hL : Leased V w5 F.b F.m F.g F.span rs node fr) : Below B W0 w5 :=
  hb.trans (hL.keep.below (by have := hb.size; have := (hA.base .own F.X rfl); omega) (fun i hi hs => by
    have e1 := (hA.base .office F.b rfl).1
    have e2 := (hA.base .map F.m rfl).1
    have e3 := (hA.base .row F.g rfl).1
    rcases hs with e | e | e <;> omega))

theorem r3_after {B : Nat} {W0 V w5 : World} {F : FB} {rs : List (Nat × Nat)} {d : Nat → Fd} {all : List Int} {k fr : Nat} {nd : Int} (hk : k < 6) (hA : FleetAt B V F rs d all) (hb : Below B W0 V) (hL : Leased V w5 F.b F.m F.g F.span rs (k / 2) fr) :
    R3 B W0 (w5.alloc (.cells #[.int .i64 nd, .int .i64 fr, .int .i64 ((fr : Int) + (F.span : Int))] 39)) F rs d all k fr w5.heap.size nd := by
  obtain ⟨g, cap, _, h5⟩ := hA.leased hL
  have hc := fun o => cell_alloc_new w5 #[.int .i64 nd, .int .i64 fr, .int .i64 ((fr : Int) + (F.span : Int))] 39 o
  have hbl := leased_below hA hb hL
  refine ⟨⟨g, cap, h5.below ((Below.refl _ _).alloc (Nat.le_refl _) _)⟩, ?_, (hc 0).1, (hc 1).1, (hc 2).1, hbl.alloc ?_ _⟩
  · have := (hA.base (.desk k) (F.dk k) (if_pos hk)).2
    have := hL.keep.size
    omega
  · have := (h5.base .own F.X rfl); omega

theorem r3_before {B : Nat} {W0 V w5 : World} {F : FB} {rs : List (Nat × Nat)} {d : Nat → Fd} {all : List Int} {k fr : Nat} {nd : Int} {Z : Obj} (hk : k < 6) (hA : FleetAt B V F rs d all) (hb : Below B W0 V) (hL : Leased (V.alloc Z) w5 F.b F.m F.g F.span rs (k / 2) fr)
    (hZ : Z = .cells #[.int .i64 0, .int .i64 0, .int .i64 0] 39) :
    R3 B W0 (((w5.setCell ⟨V.heap.size, 0, none⟩ (.int .i64 nd)).setCell ⟨V.heap.size, 1, none⟩ (.int .i64 fr)).setCell ⟨V.heap.size, 2, none⟩ (.int .i64 ((fr : Int) + (F.span : Int)))) F rs d all k fr V.heap.size nd := by
  subst hZ
  have hA1 := hA.below ((Below.refl _ _).alloc (Nat.le_refl _) (.cells #[.int .i64 0, .int .i64 0, .int .i64 0] 39))
  have hb1 : Below B W0 (V.alloc (.cells #[.int .i64 0, .int .i64 0, .int .i64 0] 39)) := hb.alloc (by have := (hA.base .own F.X rfl); omega) _
  obtain ⟨g, cap, hgo, h5⟩ := hA1.leased hL
  have hbl := leased_below hA1 hb1 hL
  have hXl := (hA.base .own F.X rfl)
  have l1 := (hA.base .office F.b rfl).2
  have l2 := (hA.base .map F.m rfl).2
  have l3 := (hA.base .row F.g rfl).2
  have s5 := hL.keep.size
  simp at s5 hgo
  have e1 := hL.keep.block V.heap.size (by simp) (fun hs => by rcases hs with e | e | e <;> omega)
  have hc := fun o => cell_alloc_new V #[.int .i64 0, .int .i64 0, .int .i64 0] 39 o
  have ec : ∀ o, w5.cell? ⟨V.heap.size, o, none⟩ = (#[.int .i64 0, .int .i64 0, .int .i64 0] : Array Value)[o]? := fun o => (World.cell?_of_block (w := V.alloc (.cells #[.int .i64 0, .int .i64 0, .int .i64 0] 39)) (a := ⟨V.heap.size, o, none⟩) e1).trans (hc o).1
  obtain ⟨q0, q1, q2⟩ := set_three w5 V.heap.size (.int .i64 nd) (.int .i64 fr) (.int .i64 ((fr : Int) + (F.span : Int))) (ec 0) (ec 1) (ec 2)
  have hnl : ∀ p z, ({ F with g := g, cap := cap } : FB).at p = some z → z ≠ V.heap.size := fun p z hp e => by
    subst e
    by_cases hpr : p = .row
    · subst hpr
      have hz : g = V.heap.size := by have : some g = some V.heap.size := hp; exact Option.some.inj this
      rcases hgo with e | e <;> omega
    · have hp' : F.at p = some V.heap.size := by cases p <;> first | exact hp | exact absurd rfl hpr
      exact absurd (hA.base p _ hp').2 (Nat.lt_irrefl _)
  refine ⟨⟨g, cap, h5.other (fun p z hp => ?_) (by simp [World.setCell])⟩, ?_, ?_, ?_, q2, ((hbl.setCell ?_ _).setCell ?_ _).setCell ?_ _⟩
  · have hz := hnl p z hp
    rw [Below.heap_setCell _ _ _ _ hz, Below.heap_setCell _ _ _ _ hz, Below.heap_setCell _ _ _ _ hz]
  · have := (hA.base (.desk k) (F.dk k) (if_pos hk)).2
    omega
  · rw [World.cell?_setCell_other _ _ _ _ (by simp), World.cell?_setCell_other _ _ _ _ (by simp)]; exact q0
  · rw [World.cell?_setCell_other _ _ _ _ (by simp)]; exact q1
  · show B ≤ V.heap.size; omega
  · show B ≤ V.heap.size; omega
  · show B ≤ V.heap.size; omega

set_option maxRecDepth 100000 in
set_option maxHeartbeats 4000000 in
theorem tick3 {B : Nat} {W0 W : World} {X t : Nat} (h : FleetInv B W0 W X t) (ht : t ≤ 1048576) (A Bv : Int) (a1 : -9223372036854775808 ≤ A) (a2 : A ≤ 9223372036854775807) (b1 : -9223372036854775808 ≤ Bv) (b2 : Bv ≤ 9223372036854775807) :
    Calls Try.prog 19 #[.pointer (some ⟨X, 0, none⟩), .agg #[.int .i64 3, .int .i64 A, .int .i64 Bv]] W fun e w' => e = .returned (.bool true) ∧ FleetInv B W0 w' X (t + 1) := by
  obtain ⟨F, rs, d, bot, all, rfl, hA, hO, htop, hl0, h400, hrs, hs1, hs2, hbel⟩ := h.ex
  obtain ⟨k, hkp, hk⟩ : ∃ k : Nat, pickI A 6 = (k : Int) ∧ k < 6 := by
    have := pickI_bounds A 6 (by omega)
    exact ⟨(pickI A 6).toNat, by omega, by omega⟩
  have hk1 := fun w => pick_any A 6 w a1 a2 (by omega)
  rw [hkp] at hk1
  obtain ⟨p, hp, hp1⟩ : ∃ p : Nat, pickI Bv 200 = (p : Int) ∧ p < 200 := by
    have := pickI_bounds Bv 200 (by omega)
    exact ⟨(pickI Bv 200).toNat, by omega, by omega⟩
  have hk2 := fun w => pick_any Bv 200 w b1 b2 (by omega)
  rw [hp] at hk2
  obtain ⟨W1, hW1⟩ : ∃ W1, W1 = W.alloc (.cells #[.int .i64 3, .int .i64 A, .int .i64 Bv] 59) := ⟨_, rfl⟩
  have hA1 : FleetAt B W1 F rs d all := by rw [hW1]; exact hA.below ((Below.refl _ _).alloc (Nat.le_refl _) _)
  have y0 := hA1.but.x0 id
  have y2 := hA1.but.x2 id
  have d1 := hA1.but.rD id k hk
  have c1 := hA1.but.rC id k hk
  have z1 := hA1.but.zC id k hk
  have hclk := hO.clk k hk
  obtain ⟨C, hC⟩ : ∃ C, (d k).clk = C := ⟨_, rfl⟩
  rw [hC] at c1 hclk
  have hk6 : (k : Int) < 6 := by omega
  have hw1 : IntKind.i64.wrap (C + (p : Int)) = C + (p : Int) := by rw [IntKind.wrap_i64]; omega
  have hw2 : IntKind.i64.wrap (C + (p : Int) - 100) = C + (p : Int) - 100 := by rw [IntKind.wrap_i64]; omega
  rw [hW1] at y0 y2 d1 c1 z1
  replace hW1 : Hid _ := hW1
  replace hA1 : Hid _ := hA1
  replace hA : Hid _ := hA
  replace hO : Hid _ := hO
  replace htop : Hid _ := htop
  replace hC : Hid _ := hC
  clear h hkp hp
  go_enter Try.func19, Try.ntmps19
  go_wp2
  go_quiet ((go_at_call 11; exact Calls.quiet_of_same (hk1 _)))
  go_wp2
  obtain ⟨V, hV⟩ : ∃ V, V = (W.alloc (.cells #[.int .i64 3, .int .i64 A, .int .i64 Bv] 59)).drewN nq := ⟨_, rfl⟩
  have v2 : V.cell? ⟨F.X, 2, none⟩ = some (.slice (some ⟨F.gC, 0, none⟩) 6 F.cC) := by rw [hV]; exact y2
  have vc : V.cell? ⟨F.gC, k, none⟩ = some (.int .i64 C) := by rw [hV]; exact c1
  have vt : V.cell? ⟨W.heap.size, 2, none⟩ = some (.int .i64 Bv) := by rw [hV]; exact (cell_alloc_new W #[.int .i64 3, .int .i64 A, .int .i64 Bv] 59 2).1
  rw [← hV]
  have hAV : FleetAt B V F rs d all := by rw [hV, ← hW1.out]; exact hA1.out.below (below_drewN (Below.refl _ _) nq)
  have hbV : Below B W0 V := by
    rw [hV]
    exact below_drewN (hbel.alloc (by have := hbel.size; have := hA.out.base .own F.X rfl; omega) _) nq
  replace hV : Hid _ := hV
  replace hbel : Hid _ := hbel
  clear y0 y2 d1 c1 z1
  go_quiet ((go_at_call 11; exact Calls.quiet_of_same (hk2 _)))
  go_wp2
  obtain ⟨old, hold⟩ : ∃ old, old = C + (p : Int) - 100 := ⟨_, rfl⟩
  rw [← hold]
  obtain ⟨V2, hV2⟩ : ∃ V2, V2 = V.drewN nq := ⟨_, rfl⟩
  rw [← hV2]
  have hA2 : FleetAt B V2 F rs d all := by rw [hV2]; exact hAV.below (below_drewN (Below.refl _ _) nq)
  have hb2 : Below B W0 V2 := by rw [hV2]; exact below_drewN hbV nq
  obtain ⟨nd, hnd⟩ : ∃ nd : Int, ((k / 2 : Nat) : Int) = nd := ⟨_, rfl⟩
  have u4 := hA2.but.x4 id
  have u1 := hA2.but.x1 id
  have un := hA2.but.rN id k hk
  rw [hnd] at un
  obtain ⟨fr, hfr⟩ : ∃ fr : Nat, (fr : Int) = fromOf old (fenceOf rs (k / 2)) := ⟨(fromOf old (fenceOf rs (k / 2))).toNat, Int.toNat_of_nonneg (by unfold fromOf; omega)⟩
  have hfe := hO.out.fence (k / 2)
  have hfb : fr + F.span ≤ 2000 + 300 * (t + 1) ∧ fenceOf rs (k / 2) ≤ fr := by unfold fromOf at hfr; omega
  have hle : ∀ V', FleetAt B V' F rs d all → Calls Try.prog 20 #[.pointer (some ⟨F.b, 0, none⟩), .int .i64 nd, .int .i64 old] V' fun e w' => e = .returned (.tuple #[.agg #[.int .i64 nd, .int .i64 fr, .int .i64 ((fr : Int) + (F.span : Int))], .int .i64 0]) ∧ Leased V' w' F.b F.m F.g F.span rs (k / 2) fr := fun V' hV' => by
    have := lease_walk (hV'.but.off id id id) (k / 2) fr old (by omega) (by rw [mx_from, hfr]) (by omega) (by omega)
    rw [hnd] at this
    exact this
  have hw1' : Hid _ := hfb
  have hkn : Hid (∀ V' w5, Leased V' w5 F.b F.m F.g F.span rs (k / 2) fr → ∀ o, V2.heap.size < V'.heap.size → w5.cell? ⟨V2.heap.size, o, none⟩ = V'.cell? ⟨V2.heap.size, o, none⟩) := fun V' w5 hL5 o hlt => by
    have e1 := hL5.keep.block V2.heap.size hlt (fun hs => by
      have l1 := (hA2.base .office F.b rfl).2
      have l2 := (hA2.base .map F.m rfl).2
      have l3 := (hA2.base .row F.g rfl).2
      rcases hs with e | e | e <;> omega)
    exact World.cell?_of_block (w := V') (a := ⟨V2.heap.size, o, none⟩) e1
  have hkz : Hid (∀ V' w5, Leased V' w5 F.b F.m F.g F.span rs (k / 2) fr → ∀ o, V2.heap.size < V'.heap.size → w5.frozen? ⟨V2.heap.size, o, none⟩ = V'.frozen? ⟨V2.heap.size, o, none⟩) := fun V' w5 hL5 o hlt => by
    have e1 := hL5.keep.block V2.heap.size hlt (fun hs => by
      have l1 := (hA2.base .office F.b rfl).2
      have l2 := (hA2.base .map F.m rfl).2
      have l3 := (hA2.base .row F.g rfl).2
      rcases hs with e | e | e <;> omega)
    exact World.frozen?_of_block (w := V') (a := ⟨V2.heap.size, o, none⟩) e1
  clear hold hfr hfe hw1 hw2 hclk v2 vc vt hfb
  replace hA2 : Hid _ := hA2
  replace hAV : Hid _ := hAV
  replace hbV : Hid _ := hbV
  replace hb2 : Hid _ := hb2
  replace hV2 : Hid _ := hV2
  replace hnd : Hid _ := hnd
  have hk6' : (k : Int) < 6 := by omega
  have lN : F.gN < V2.heap.size := (hA2.out.base .nodes F.gN rfl).2
  have lX : F.X < V2.heap.size := (hA2.out.base .own F.X rfl).2
  go_cut [15, 16] from 179 (fun x y wx => ∃ L : Nat, x = .pointer (some ⟨L, 0, none⟩) ∧ y = .int .i64 0 ∧ Hid (R3 B W0 wx F rs d all k fr L nd))
  case first =>
    have hAd : Hid (FleetAt B V2.drew F rs d all) := hA2.out.below (below_drewN (Below.refl _ _) 1)
    have hbd : Hid (Below B W0 V2.drew) := below_drewN hb2.out 1
    go_region_with (go_at_call 20; refine (hle _ ?_).mono ?_; (first | exact hAd.out | exact hAd.out.below ((Below.refl _ _).alloc (Nat.le_refl _) _)); rintro e w5 ⟨rfl, hL5⟩; have hq := hkn.out _ _ hL5; have hqz := hkz.out _ _ hL5; replace hL5 : Hid _ := hL5)
    all_goals
      go_wp2_with fail
      go_meet
      first
        | exact ⟨_, rfl, rfl, r3_after (V := V2.drew) hk hAd.out hbd.out hL5.out⟩
        | exact ⟨_, rfl, rfl, r3_before (V := V2.drew) hk hAd.out hbd.out hL5.out rfl⟩
  case rest =>
  obtain ⟨L, rfl, rfl, hR⟩ := hcut
  clear hkn hkz hle u4 u1 un lN lX
  obtain ⟨g6, cap6, hA6⟩ := hR.out.fl
  have m0 := hR.out.c0
  have m1 := hR.out.c1
  have m2 := hR.out.c2
  have hdk : DeskAt wc (F.dk k) (F.ch k) (d k).s := hA6.but.dsk k hk id id
  have ok := hO.out.ok k hk
  have hre : renewErr (d k).s nd fr ((fr : Int) + (F.span : Int)) = 0 := by
    have hn := hO.out.node k hk
    have hwn := hO.out.win k hk
    have hf := hw1'.out
    have hnd' := hnd.out
    unfold renewErr
    rw [if_pos ⟨by omega, by omega, by omega, by omega, by omega⟩, if_pos (by omega), if_neg (by omega)]
  have hrn := hdk.renew_any nd fr ((fr : Int) + (F.span : Int))
  rw [hre, if_pos rfl] at hrn
  replace hA6 : Hid _ := hA6
  clear hdk hre
  go_wp2_with fail
  refine hrn.mono ?_
  rintro e w6 ⟨rfl, hd6, hk6k⟩
  have hA7 := hA6.out.deskStep k hk (hk6k.mono (fun i _ e => Or.inl e)) (F.ch k) (Or.inl rfl) { d k with s := (d k).s.renew fr ((fr : Int) + (F.span : Int)) } hd6 rfl rfl
  have hL1 : w6.cell? ⟨L, 1, none⟩ = some (.int .i64 fr) := (hk6k.cell (p := ⟨L, 1, none⟩) (block_lt_of_cell m1) hR.out.np).trans m1
  have u2 : w6.cell? ⟨F.X, 2, none⟩ = some (.slice (some ⟨F.gC, 0, none⟩) 6 F.cC) := hA7.but.x2 id
  have uc : w6.cell? ⟨F.gC, k, none⟩ = some (.int .i64 (upd d k { d k with s := (d k).s.renew fr ((fr : Int) + (F.span : Int)) } k).clk) := hA7.but.rC id k hk
  have uz : w6.frozen? ⟨F.gC, k, none⟩ = false := hA7.but.zC id k hk
  have hb6 : Below B W0 w6 := hR.out.bel.trans (hk6k.below (by have := hR.out.bel.size; have := (hA6.out.base .own F.X rfl); have e : ({ F with g := g6, cap := cap6 } : FB).X = F.X := rfl; omega) (fun i hi hs => by have := (hA6.out.base (.desk k) (F.dk k) (if_pos hk)).1; omega))
  replace hA7 : Hid _ := hA7
  replace hb6 : Hid _ := hb6
  clear hrn hd6 m0 m1 m2
  go_wp2
  refine wp_region_last_lit (by kernel_rfl) rfl rfl rfl (by kernel_rfl) (by kernel_rfl) (by kernel_rfl) ?_
  simp only [List.dropLast, List.getLastD, List.getLast, struck, List.cons_append, List.nil_append]
  repeat (go_big_quiet_step (fail))
  refine wpQuiet_nil ?_
  intro _ hw'
  obtain ⟨nr, hw''⟩ := hw'
  subst hw''
  have hA8 := hA7.out.wroteClock k fr nr { s := (d k).s.renew fr ((fr : Int) + (F.span : Int)), clk := fr, last := (d k).last } (by rw [upd_same]) rfl (by rw [upd_same])
  have hfin : Hid (FleetInv B W0 ((w6.drewN nr).setCell ⟨F.gC, k, none⟩ (.int .i64 fr)) F.X (t + 1)) := by
    have hf := hw1'.out
    have hO8 := hO.out.renewed k hk fr (fr + F.span) hf.2 (by omega) (by omega) (by omega) { s := (d k).s.renew fr ((fr : Int) + (F.span : Int)), clk := fr, last := (d k).last } (by rw [Int.natCast_add]) rfl rfl
    have e : upd (upd d k { d k with s := (d k).s.renew fr ((fr : Int) + (F.span : Int)) }) k { s := (d k).s.renew fr ((fr : Int) + (F.span : Int)), clk := fr, last := (d k).last } = upd d k { s := (d k).s.renew fr ((fr : Int) + (F.span : Int)), clk := fr, last := (d k).last } := by
      funext i; unfold upd; split <;> rfl
    rw [e] at hA8
    refine ⟨{ F with g := g6, cap := cap6, ch := upd F.ch k (F.ch k) }, _, _, bot, all, rfl, hA8, hO8, fun i hi => ?_, fun i hi => ?_, h400, by rw [List.length_append, List.length_singleton]; omega, hs1, hs2, (below_drewN hb6.out nr).setCell (hA6.out.base .clocks F.gC rfl).1 _⟩
    · by_cases hi' : i = k
      · subst hi'; rw [upd_same]; exact htop.out i hi
      · rw [upd_other _ _ _ hi']; exact htop.out i hi
    · by_cases hi' : i = k
      · subst hi'; rw [upd_same]; exact hl0 i hi
      · rw [upd_other _ _ _ hi']; exact hl0 i hi
  go_wp2
  go_ret
  exact ⟨rfl, hfin.out⟩
end Go.Proofs.Ytdplffhieekfaaa
