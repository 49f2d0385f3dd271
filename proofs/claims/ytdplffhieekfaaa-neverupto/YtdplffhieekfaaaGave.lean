/-
  stampskeep's fleet: gave.
-/
import Derived.Test.YtdplffhieekfaaaFleetAt
import Derived.BigQuiet
namespace Go.Proofs.Ytdplffhieekfaaa
open Go.RowKit Go.Maps Go.Lib

theorem u64_row_info : (Try.prog.info? 22).map (fun i => (i.zero, i.size, i.bytes)) = some (some (.int .u64 0), 1, 8) := by kernel_rfl

theorem owns_slc {w : World} {base : Nat} {e : TypeId} {size : Nat} {v : Value} {n : Nat} {xs : List Value} (h : w.ownsRow base e size v n xs) :
    ∃ a cap, v = .slice a n cap ∧ ∀ j, j < n → ∃ g, a = some ⟨g, 0, none⟩ ∧ ∀ i u, xs[i]? = some u → w.cell? ⟨g, i, none⟩ = some u := by
  rcases h.2 with ⟨rfl, rfl⟩ | ⟨g, cap, cur, rfl, h1, h2, h3⟩
  · exact ⟨none, 0, rfl, fun j hj => by omega⟩
  · refine ⟨some ⟨g, 0, none⟩, cap, rfl, fun j _ => ⟨g, rfl, fun i u hu => ?_⟩⟩
    have := h.cells (g := g) rfl i u hu
    rwa [Lib.add_plain, Nat.zero_add] at this

/-- The last number of a desk is written. -/
theorem FleetAt.wroteLast {B : Nat} {W : World} {F : FB} {rs : List (Nat × Nat)} {d : Nat → Fd} {all : List Int} (h : FleetAt B W F rs d all) (k : Nat) (x : Int) (n : Nat) (y : Fd) (hys : y.s = (d k).s) (hyc : y.clk = (d k).clk) (hyl : y.last = x) :
    FleetAt B ((W.drewN n).setCell ⟨F.gT, k, none⟩ (.int .u64 x)) F rs (upd d k y) all := by
  have hn := h.but.on (W' := (W.drewN n).setCell ⟨F.gT, k, none⟩ (.int .u64 x)) (R' := fun p => p = .last) (fun p z hp hne => by
    have : z ≠ F.gT := fun e => hne (h.apart p .last z hp (by rw [e]; rfl))
    exact Below.heap_setCell _ _ _ _ this)
  have out : ∀ {p : Part}, p ≠ .last → ¬ (none' p ∨ p = .last) := fun h1 h2 => h2.elim id h1
  have es : ∀ i, (upd d k y i).s = (d i).s ∧ (upd d k y i).clk = (d i).clk := fun i => by
    by_cases hi : i = k
    · subst hi; rw [upd_same]; exact ⟨hys, hyc⟩
    · rw [upd_other _ _ _ hi]; exact ⟨rfl, rfl⟩
  refine ⟨⟨fun _ => hn.x0 (out (by simp)), fun _ => hn.x1 (out (by simp)), fun _ => hn.x2 (out (by simp)), fun _ => hn.x3 (out (by simp)), fun _ => hn.x4 (out (by simp)), fun _ => hn.x5 (out (by simp)), fun _ => hn.xz (out (by simp)),
    fun _ => hn.rD (out (by simp)), fun _ => hn.rN (out (by simp)), fun _ i hi => by rw [(es i).2]; exact hn.rC (out (by simp)) i hi, fun _ => hn.zC (out (by simp)), fun _ i hi => ?_, fun _ i hi => by rw [World.frozen?_setCell]; exact h.but.zT id i hi, fun _ => hn.rA (out (by simp)),
    fun i hi _ _ => by rw [(es i).1]; exact hn.dsk i hi (out (by simp)) (out (by simp)), fun _ _ _ => hn.off (out (by simp)) (out (by simp)) (out (by simp))⟩, h.apart, fun p z hp => ⟨(h.base p z hp).1, by simpa [World.setCell] using (h.base p z hp).2⟩⟩
  by_cases hi' : i = k
  · subst hi'
    rw [upd_same, hyl]
    exact World.cell?_setCell_same _ _ _ (h.but.rT id i hi)
  · rw [upd_other _ _ _ hi', World.cell?_setCell_other _ _ _ _ (by simp <;> omega)]
    exact h.but.rT id i hi

/-- A number more is kept. -/
theorem FleetAt.keptOne {B : Nat} {W W' : World} {F : FB} {rs : List (Nat × Nat)} {d : Nat → Fd} {all : List Int} {x : Int} {v : Value} (h : FleetAt B W F rs d all) (ho : W'.ownsRow B 22 1 v (all.length + 1) (all.map (Value.int .u64) ++ [.int .u64 x])) (hg : W.grownBy W' F.vA.ownBlock) (hl : v.ownBlock = F.vA.ownBlock ∨ v.ownBlock = some W.heap.size) :
    FleetAt B (W'.setCell ⟨F.X, 5, none⟩ v) { F with vA := v } rs d (all ++ [x]) := by
  have sz := hg.size
  have hnA : ∀ p z, F.at p = some z → p ≠ .all → W'.heap[z]? = W.heap[z]? := fun p z hp hne => hg.block z (h.base p z hp).2 (fun e => hne (h.apart p .all z hp e.symm))
  have vn : ∀ z, v.ownBlock = some z → ∀ p, p ≠ .all → F.at p ≠ some z := fun z hz p hne hp => by
    rcases hl with e | e
    · exact hne (h.apart p .all z hp (e.symm.trans hz))
    · rw [e] at hz; cases hz; exact absurd (h.base p _ hp).2 (Nat.lt_irrefl _)
  have at' : ∀ p, p ≠ .all → ({ F with vA := v } : FB).at p = F.at p := fun p hne => by cases p <;> first | rfl | exact absurd rfl hne
  have hn := h.but.on (W' := W'.setCell ⟨F.X, 5, none⟩ v) (R' := fun p => p = .all ∨ p = .own) (fun p z hp hne => by
    have h1 : z ≠ F.X := fun e => hne (Or.inr (h.apart p .own z hp (by rw [e]; rfl)))
    rw [Below.heap_setCell _ _ _ _ h1]
    exact hnA p z hp (fun e => hne (Or.inl e)))
  have out : ∀ {p : Part}, p ≠ .all → p ≠ .own → ¬ (none' p ∨ (p = .all ∨ p = .own)) := fun h1 h3 h2 => h2.elim id (fun e => e.elim h1 h3)
  have hX : W'.heap[F.X]? = W.heap[F.X]? := hnA .own F.X rfl (by simp)
  have cX : ∀ o, W'.cell? ⟨F.X, o, none⟩ = W.cell? ⟨F.X, o, none⟩ := fun o => World.cell?_of_block (w := W) hX
  have cO : ∀ o, o ≠ 5 → (W'.setCell ⟨F.X, 5, none⟩ v).cell? ⟨F.X, o, none⟩ = W.cell? ⟨F.X, o, none⟩ := fun o hne => by
    rw [World.cell?_setCell_other _ _ _ _ (by simp <;> omega)]; exact cX o
  refine ⟨⟨fun _ => (cO 0 (by omega)).trans (h.but.x0 id), fun _ => (cO 1 (by omega)).trans (h.but.x1 id), fun _ => (cO 2 (by omega)).trans (h.but.x2 id), fun _ => (cO 3 (by omega)).trans (h.but.x3 id), fun _ => (cO 4 (by omega)).trans (h.but.x4 id), fun _ => World.cell?_setCell_same _ _ _ ((cX 5).trans (h.but.x5 id)),
    fun _ o => by rw [World.frozen?_setCell]; exact (World.frozen?_of_block (w := W) (a := ⟨F.X, o, none⟩) hX).trans (h.but.xz id o),
    fun _ => hn.rD (out (by simp) (by simp)), fun _ => hn.rN (out (by simp) (by simp)), fun _ => hn.rC (out (by simp) (by simp)), fun _ => hn.zC (out (by simp) (by simp)), fun _ => hn.rT (out (by simp) (by simp)), fun _ => hn.zT (out (by simp) (by simp)), fun _ => ?_,
    fun i hi _ _ => hn.dsk i hi (out (by simp) (by simp)) (out (by simp) (by simp)), fun _ _ _ => hn.off (out (by simp) (by simp)) (out (by simp) (by simp)) (out (by simp) (by simp))⟩, fun p q z hp hq => ?_, fun p z hp => ?_⟩
  · rw [List.length_append, List.length_singleton, List.map_append]
    refine owns_on ho (fun z hz => ?_)
    exact Below.heap_setCell _ _ _ _ (fun e => vn z hz .own (by simp) (by rw [e]; rfl))
  · by_cases e1 : p = .all
    · by_cases e2 : q = .all
      · rw [e1, e2]
      · rw [e1] at hp; rw [at' q e2] at hq
        exact absurd hq (vn z hp q e2)
    · by_cases e2 : q = .all
      · rw [e2] at hq; rw [at' p e1] at hp
        exact absurd hp (vn z hq p e1)
      · rw [at' p e1] at hp; rw [at' q e2] at hq
        exact h.apart p q z hp hq
  · have hs : (W'.setCell ⟨F.X, 5, none⟩ v).heap.size = W'.heap.size := by simp [World.setCell]
    rw [hs]
    by_cases e1 : p = .all
    · rw [e1] at hp
      exact owns_lt ho z hp
    · rw [at' p e1] at hp
      have := h.base p z hp
      exact ⟨this.1, Nat.lt_of_lt_of_le this.2 sz⟩

/-- What gave leaves. -/
structure GaveOk (B : Nat) (W w' : World) (F : FB) (rs : List (Nat × Nat)) (d : Nat → Fd) (k : Nat) (x : Int) (all : List Int) : Prop where
  mk ::
  ex : ∃ v all', (all' = all ∨ all' = all ++ [x]) ∧ all'.length ≤ 400 ∧ FleetAt B w' { F with vA := v } rs (upd d k { d k with last := x }) all' ∧ Below B W w' ∧
    (v.ownBlock = F.vA.ownBlock ∨ ∃ z, W.heap.size ≤ z ∧ v.ownBlock = some z) ∧ ∀ z, z < W.heap.size → (∀ p, F.at p ≠ some z) → w'.heap[z]? = W.heap[z]?

set_option maxRecDepth 100000 in
set_option maxHeartbeats 2000000 in
theorem gave_walk {B : Nat} {W : World} {F : FB} {rs : List (Nat × Nat)} {d : Nat → Fd} {all : List Int} (h : FleetAt B W F rs d all) (k : Nat) (hk : k < 6) (x : Int) (x0 : 0 ≤ x) (x1 : x < 9223372036854775808) (hnode : x / 4096 % 1024 = ((k / 2 : Nat) : Int))
    (hlast : (d k).last = 0 ∨ (d k).last < x) (hl0 : 0 ≤ (d k).last) (hmem : x ∉ all) (hlen : all.length ≤ 400) :
    Calls Try.prog 34 #[.pointer (some ⟨F.X, 0, none⟩), .int .i64 k, .int .u64 x] W fun e w' => e = .returned (.bool true) ∧ GaveOk B W w' F rs d k x all := by
  obtain ⟨a, ca, hva, hcell⟩ := owns_slc (h.but.rA id)
  have hp := parts_ok x W x0 x1
  rw [hnode] at hp
  obtain ⟨nd, hnd⟩ : ∃ nd : Int, ((k / 2 : Nat) : Int) = nd := ⟨_, rfl⟩
  rw [hnd] at hp hnode
  generalize x / 4194304 = q1 at hp
  generalize x % 4096 = q2 at hp
  go_enter Try.func34, Try.ntmps34
  go_wp2_with fail
  refine hp.mono ?_
  rintro e w1 ⟨rfl, hb1⟩
  obtain ⟨W1, hW1⟩ : ∃ W1, W1 = w1.alloc (.cells #[.int .i64 q1, .int .i64 nd, .int .i64 q2] 26) := ⟨_, rfl⟩
  have hF1 : FleetAt B W1 F rs d all := by rw [hW1]; exact h.below (hb1.alloc hb1.size _)
  have y1 := hF1.but.x1 id
  have y3 := hF1.but.x3 id
  have n1 := hF1.but.rN id k hk
  have l1 := hF1.but.rT id k hk
  rw [hnd] at n1
  rw [hW1] at y1 y3 n1 l1
  replace hnd : Hid _ := hnd
  replace hnode : Hid _ := hnode
  have hk6 : (k : Int) < 6 := by omega
  replace hF1 : Hid _ := hF1
  replace hW1 : Hid _ := hW1
  replace hb1 : Hid _ := hb1
  replace h : Hid _ := h
  clear hp
  have y5 := hF1.out.but.x5 id
  have t1 := l1
  have z1 := hF1.out.but.zT id k hk
  have zX := hF1.out.but.xz id 5
  rw [hva] at y5
  rw [hW1.out] at y5 z1 zX
  obtain ⟨j0, hj, hy0, hy1, hy2⟩ := info_parts u64_row_info
  have hcell1 : Hid (∀ j (hj : j < all.length), ∃ g, a = some ⟨g, 0, none⟩ ∧ (w1.alloc (.cells #[.int .i64 q1, .int .i64 nd, .int .i64 q2] 26)).cell? ⟨g, j, none⟩ = some (.int .u64 all[j])) := fun j hj => by
    obtain ⟨g, hg, hc⟩ := hcell j hj
    have hr := hF1.out.but.rA id
    rw [hva, hg] at hr
    have := hr.cells (g := g) rfl j (.int .u64 all[j]) (by simp)
    rw [Lib.add_plain, Nat.zero_add, hW1.out] at this
    exact ⟨g, hg, this⟩
  have hkX : F.X ≠ F.gT := fun e => by have := h.out.apart .own .last F.X rfl (by rw [e]; rfl); cases this
  have hone : Hid (∀ u ∈ [Value.int .u64 x], u.oneCell' = true) := by intro u hu; simp at hu; rw [hu]; rfl
  clear hcell
  obtain ⟨L, hL⟩ : ∃ L, (d k).last = L := ⟨_, rfl⟩
  rw [hL] at l1 t1 hlast hl0
  replace hL : Hid _ := hL
  have hF2 : Hid (∀ nq, FleetAt B (((w1.alloc (.cells #[.int .i64 q1, .int .i64 nd, .int .i64 q2] 26)).drewN nq).setCell ⟨F.gT, k, none⟩ (.int .u64 x)) F rs (upd d k { d k with last := x }) all) := fun nq => by
    have := hF1.out.wroteLast k x nq { d k with last := x } rfl rfl rfl
    rw [hW1.out] at this
    exact this
  have hown2 : Hid (∀ nq, (((w1.alloc (.cells #[.int .i64 q1, .int .i64 nd, .int .i64 q2] 26)).drewN nq).setCell ⟨F.gT, k, none⟩ (.int .u64 x)).ownsRow B 22 1 (.slice a all.length ca) all.length (all.map (Value.int .u64))) := fun nq => by
    have := (hF2.out nq).but.rA id
    rw [hva] at this
    exact this
  have hnew2 : Hid (∀ nq j u, [Value.int .u64 x][j]? = some u → ((((w1.alloc (.cells #[.int .i64 q1, .int .i64 nd, .int .i64 q2] 26)).drewN nq).setCell ⟨F.gT, k, none⟩ (.int .u64 x)).alloc (.cells #[.int .u64 x] 22)).cell? ((⟨w1.heap.size + 1, 0, none⟩ : Addr).add j) = some u) := fun nq => by
    have := cell_one_new (((w1.alloc (.cells #[.int .i64 q1, .int .i64 nd, .int .i64 q2] 26)).drewN nq).setCell ⟨F.gT, k, none⟩ (.int .u64 x)) (.int .u64 x) 22
    have hs : (((w1.alloc (.cells #[.int .i64 q1, .int .i64 nd, .int .i64 q2] 26)).drewN nq).setCell ⟨F.gT, k, none⟩ (.int .u64 x)).heap.size = w1.heap.size + 1 := by simp [World.setCell, World.drewN]
    rw [hs] at this
    exact this
  have hml : Hid (all.length + 1 ≤ maxLen) := by show _ ≤ _; unfold maxLen; omega
  have hby : Hid ((all.length + 1) * 8 ≤ 140737488355328) := by show _ ≤ _; omega
  have hsz2 : Hid (∀ nq, B ≤ ((((w1.alloc (.cells #[.int .i64 q1, .int .i64 nd, .int .i64 q2] 26)).drewN nq).setCell ⟨F.gT, k, none⟩ (.int .u64 x)).alloc (.cells #[.int .u64 x] 22)).heap.size) := fun nq => by
    have h1 := (hF2.out nq).base .own F.X rfl
    simp [World.setCell, World.drewN] at h1 ⊢
    omega
  by_cases hle : x ≤ L
  · obtain rfl : L = 0 := by omega
    have hd1 : decide (x ≤ 0) = true := decide_eq_true (by omega)
    clear hle hlast hl0
    go_wp2
    go_quiet (fail)
    go_wp2
    go_loop [9] (fun i => ∃ j : Nat, i = .int .i64 (j : Int) ∧ j ≤ all.length) (fun i => all.length - (RowKit.intOf i).toNat)
    case atStart => exact ⟨0, rfl, Nat.zero_le _⟩
    case round =>
      obtain ⟨j, rfl, hjl⟩ := hrel
      by_cases hlt : j < all.length
      · obtain ⟨ga, rfl, hc⟩ := hcell1.out j hlt
        have hne : (all[j] == x) = false := by simp only [beq_eq_false_iff_ne, ne_eq]; exact fun e => hmem (e ▸ List.getElem_mem _)
        have hlt' : (j : Int) < (all.length : Int) := by omega
        generalize all[j] = y at hc hne
        clear hcell1
        go_wp2
        exact ⟨⟨j + 1, by simp, by omega⟩, by simp [RowKit.intOf]; omega⟩
      · have hlt' : (all.length : Int) ≤ (j : Int) := by omega
        clear hcell1
        by_cases h4 : all.length < 400
        · have h4' : (all.length : Int) < 400 := by omega
          go_wp2_with (first
            | (at_builtin; refine wpList_append_own_at _ rfl (.tmp 85) (.tmp 87) 44 rfl B 22 j0 _ 1 8 Try.underlying44 hj hy0 hy1 hy2 rfl (by decide) (.slice a all.length ca) all.length (all.map (Value.int .u64)) rfl ((hown2.out _).alloc _) ⟨w1.heap.size + 1, 0, none⟩ 1 1 [.int .u64 x] rfl rfl (hnew2.out _) hone.out hml.out hby.out (hsz2.out _) ?_
               intro v5 w5 hown5 hgrow5 _ hloc5
               obtain ⟨a5, cc5, rfl, _⟩ := owns_slc hown5
               have hF3 := (hF2.out nq).below ((Below.refl _ _).alloc (Nat.le_refl _) (.cells #[.int .u64 x] 22))
               have hX5 := hgrow5.block F.X (hF3.base .own F.X rfl).2 (fun e => by have := hF3.apart .own .all F.X rfl (by show F.vA.ownBlock = _; rw [hva]; exact e.symm); cases this)
               have c5 := (World.cell?_of_block (w := (((w1.alloc (.cells #[.int .i64 q1, .int .i64 nd, .int .i64 q2] 26)).drewN nq).setCell ⟨F.gT, k, none⟩ (.int .u64 x)).alloc (.cells #[.int .u64 x] 22)) (a := ⟨F.X, 5, none⟩) hX5).trans (hF3.but.x5 id)
               have z5 := (World.frozen?_of_block (w := (((w1.alloc (.cells #[.int .i64 q1, .int .i64 nd, .int .i64 q2] 26)).drewN nq).setCell ⟨F.gT, k, none⟩ (.int .u64 x)).alloc (.cells #[.int .u64 x] 22)) (a := ⟨F.X, 5, none⟩) hX5).trans (hF3.but.xz id 5)
               replace hF3 : Hid _ := hF3
               replace hgrow5 : Hid _ := hgrow5
               replace hloc5 : Hid _ := hloc5
               replace hown5 : Hid _ := hown5
               clear hX5)
            | go_in)
          go_ret
          refine ⟨rfl, ⟨.slice a5 (all.length + 1) cc5, all ++ [x], Or.inr rfl, by simp; omega, ?_, ?_, ?_, ?_⟩⟩
          · exact hF3.out.keptOne hown5.out (by rw [hva]; exact hgrow5.out) (by rw [hva]; exact hloc5.out)
          · have hX := (h.out.base .own F.X rfl)
            have hb := hb1.out.size
            have hgT := (h.out.base .last F.gT rfl).1
            have b3 : Below B W ((((w1.alloc (.cells #[.int .i64 q1, .int .i64 nd, .int .i64 q2] 26)).drewN nq).setCell ⟨F.gT, k, none⟩ (.int .u64 x)).alloc (.cells #[.int .u64 x] 22)) := ((below_drewN ((hb1.out.mono (by omega)).alloc (by omega) _) nq).setCell hgT _).alloc (by simp [World.setCell]; omega) _
            exact (b3.grown hgrow5.out (by simp [World.setCell]; omega) (fun z hz => by have := h.out.base .all z (by show F.vA.ownBlock = _; rw [hva]; exact hz); exact this.1)).setCell hX.1 _
          · have hs := hloc5.out
            rcases hs with e | e
            · exact Or.inl (by rw [hva]; exact e)
            · refine Or.inr ⟨_, ?_, e⟩
              have := hb1.out.size
              simp [World.setCell, World.drewN]
              omega
          · intro z hz hp
            have hb := hb1.out.size
            have n1 : z ≠ F.X := fun e => hp .own (by rw [e]; rfl)
            have n2 : z ≠ F.gT := fun e => hp .last (by rw [e]; rfl)
            rw [Below.heap_setCell _ _ _ _ n1, hgrow5.out.block z (by simp [World.setCell, World.drewN]; omega) (fun e => hp .all (by show F.vA.ownBlock = _; rw [hva]; exact e.symm)), heap_alloc_old _ _ (by simp [World.setCell, World.drewN]; omega), Below.heap_setCell _ _ _ _ n2]
            exact (heap_alloc_old _ _ (by omega)).trans (hb1.out.block z hz)
        · have h4' : (400 : Int) ≤ (all.length : Int) := by omega
          go_wp2
          go_ret
          refine ⟨rfl, ⟨F.vA, all, Or.inl rfl, hlen, hF2.out nq, ?_, Or.inl rfl, ?_⟩⟩
          · have hX := (h.out.base .own F.X rfl)
            have hb := hb1.out.size
            exact (below_drewN ((hb1.out.mono (by omega)).alloc (by omega) _) nq).setCell (h.out.base .last F.gT rfl).1 _
          · intro z hz hp
            have hb := hb1.out.size
            have n2 : z ≠ F.gT := fun e => hp .last (by rw [e]; rfl)
            rw [Below.heap_setCell _ _ _ _ n2]
            exact (heap_alloc_old _ _ (by omega)).trans (hb1.out.block z hz)
  · have hd1 : decide (x ≤ L) = false := decide_eq_false hle
    clear hle hlast hl0
    go_wp2
    go_quiet (fail)
    go_wp2
    go_loop [9] (fun i => ∃ j : Nat, i = .int .i64 (j : Int) ∧ j ≤ all.length) (fun i => all.length - (RowKit.intOf i).toNat)
    case atStart => exact ⟨0, rfl, Nat.zero_le _⟩
    case round =>
      obtain ⟨j, rfl, hjl⟩ := hrel
      by_cases hlt : j < all.length
      · obtain ⟨ga, rfl, hc⟩ := hcell1.out j hlt
        have hne : (all[j] == x) = false := by simp only [beq_eq_false_iff_ne, ne_eq]; exact fun e => hmem (e ▸ List.getElem_mem _)
        have hlt' : (j : Int) < (all.length : Int) := by omega
        generalize all[j] = y at hc hne
        clear hcell1
        go_wp2
        exact ⟨⟨j + 1, by simp, by omega⟩, by simp [RowKit.intOf]; omega⟩
      · have hlt' : (all.length : Int) ≤ (j : Int) := by omega
        clear hcell1
        by_cases h4 : all.length < 400
        · have h4' : (all.length : Int) < 400 := by omega
          go_wp2_with (first
            | (at_builtin; refine wpList_append_own_at _ rfl (.tmp 85) (.tmp 87) 44 rfl B 22 j0 _ 1 8 Try.underlying44 hj hy0 hy1 hy2 rfl (by decide) (.slice a all.length ca) all.length (all.map (Value.int .u64)) rfl ((hown2.out _).alloc _) ⟨w1.heap.size + 1, 0, none⟩ 1 1 [.int .u64 x] rfl rfl (hnew2.out _) hone.out hml.out hby.out (hsz2.out _) ?_
               intro v5 w5 hown5 hgrow5 _ hloc5
               obtain ⟨a5, cc5, rfl, _⟩ := owns_slc hown5
               have hF3 := (hF2.out nq).below ((Below.refl _ _).alloc (Nat.le_refl _) (.cells #[.int .u64 x] 22))
               have hX5 := hgrow5.block F.X (hF3.base .own F.X rfl).2 (fun e => by have := hF3.apart .own .all F.X rfl (by show F.vA.ownBlock = _; rw [hva]; exact e.symm); cases this)
               have c5 := (World.cell?_of_block (w := (((w1.alloc (.cells #[.int .i64 q1, .int .i64 nd, .int .i64 q2] 26)).drewN nq).setCell ⟨F.gT, k, none⟩ (.int .u64 x)).alloc (.cells #[.int .u64 x] 22)) (a := ⟨F.X, 5, none⟩) hX5).trans (hF3.but.x5 id)
               have z5 := (World.frozen?_of_block (w := (((w1.alloc (.cells #[.int .i64 q1, .int .i64 nd, .int .i64 q2] 26)).drewN nq).setCell ⟨F.gT, k, none⟩ (.int .u64 x)).alloc (.cells #[.int .u64 x] 22)) (a := ⟨F.X, 5, none⟩) hX5).trans (hF3.but.xz id 5)
               replace hF3 : Hid _ := hF3
               replace hgrow5 : Hid _ := hgrow5
               replace hloc5 : Hid _ := hloc5
               replace hown5 : Hid _ := hown5
               clear hX5)
            | go_in)
          go_ret
          refine ⟨rfl, ⟨.slice a5 (all.length + 1) cc5, all ++ [x], Or.inr rfl, by simp; omega, ?_, ?_, ?_, ?_⟩⟩
          · exact hF3.out.keptOne hown5.out (by rw [hva]; exact hgrow5.out) (by rw [hva]; exact hloc5.out)
          · have hX := (h.out.base .own F.X rfl)
            have hb := hb1.out.size
            have hgT := (h.out.base .last F.gT rfl).1
            have b3 : Below B W ((((w1.alloc (.cells #[.int .i64 q1, .int .i64 nd, .int .i64 q2] 26)).drewN nq).setCell ⟨F.gT, k, none⟩ (.int .u64 x)).alloc (.cells #[.int .u64 x] 22)) := ((below_drewN ((hb1.out.mono (by omega)).alloc (by omega) _) nq).setCell hgT _).alloc (by simp [World.setCell]; omega) _
            exact (b3.grown hgrow5.out (by simp [World.setCell]; omega) (fun z hz => by have := h.out.base .all z (by show F.vA.ownBlock = _; rw [hva]; exact hz); exact this.1)).setCell hX.1 _
          · have hs := hloc5.out
            rcases hs with e | e
            · exact Or.inl (by rw [hva]; exact e)
            · refine Or.inr ⟨_, ?_, e⟩
              have := hb1.out.size
              simp [World.setCell, World.drewN]
              omega
          · intro z hz hp
            have hb := hb1.out.size
            have n1 : z ≠ F.X := fun e => hp .own (by rw [e]; rfl)
            have n2 : z ≠ F.gT := fun e => hp .last (by rw [e]; rfl)
            rw [Below.heap_setCell _ _ _ _ n1, hgrow5.out.block z (by simp [World.setCell, World.drewN]; omega) (fun e => hp .all (by show F.vA.ownBlock = _; rw [hva]; exact e.symm)), heap_alloc_old _ _ (by simp [World.setCell, World.drewN]; omega), Below.heap_setCell _ _ _ _ n2]
            exact (heap_alloc_old _ _ (by omega)).trans (hb1.out.block z hz)
        · have h4' : (400 : Int) ≤ (all.length : Int) := by omega
          go_wp2
          go_ret
          refine ⟨rfl, ⟨F.vA, all, Or.inl rfl, hlen, hF2.out nq, ?_, Or.inl rfl, ?_⟩⟩
          · have hX := (h.out.base .own F.X rfl)
            have hb := hb1.out.size
            exact (below_drewN ((hb1.out.mono (by omega)).alloc (by omega) _) nq).setCell (h.out.base .last F.gT rfl).1 _
          · intro z hz hp
            have hb := hb1.out.size
            have n2 : z ≠ F.gT := fun e => hp .last (by rw [e]; rfl)
            rw [Below.heap_setCell _ _ _ _ n2]
            exact (heap_alloc_old _ _ (by omega)).trans (hb1.out.block z hz)
end Go.Proofs.Ytdplffhieekfaaa
