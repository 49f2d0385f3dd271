/-
  stampskeep's fleet: desk: one more.
-/
import Derived.Test.YtdplffhieekfaaaGrowMore
import Derived.Test.YtdplffhieekfaaaTick4
import Derived.Deep.RegionLaw
namespace Go.Proofs.Ytdplffhieekfaaa
open Go.RowKit Go.Maps Go.Lib

theorem ptr_info : (Try.prog.info? 35).map (fun i => (i.zero, i.size, i.bytes)) = some (some (.pointer none), 1, 8) := by kernel_rfl

/-- What desk leaves. -/
structure DeskMade (B : Nat) (W w' : World) (G : GB) (rs : List (Nat × Nat)) (s : Nat → Dk) (lD lN lC lT : List Value) (node fr : Nat) : Prop where
  mk ::
  ex : ∃ g cap vD vN vC vT k, GrowAt B w' { G with g := g, cap := cap, vD := vD, vN := vN, vC := vC, vT := vT, dk := upd G.dk G.n k, n := G.n + 1 } (rs ++ [(node, fr + G.span)]) (upd s G.n (newDk node fr ((fr : Int) + (G.span : Int)) 100))
    (lD ++ [.pointer (some ⟨k, 0, none⟩)]) (lN ++ [.int .i64 node]) (lC ++ [.int .i64 fr]) (lT ++ [.int .u64 0])
  bel : Below B W w'

theorem grown_cell {B : Nat} {W W' : World} {G : GB} {rs : List (Nat × Nat)} {s : Nat → Dk} {lD lN lC lT : List Value} (h : GrowAt B W G rs s lD lN lC lT) {p : Part} (hp : p ≠ .own) (hg : W.grownBy W' (G.at p)) :
    (∀ o, W'.cell? ⟨G.X, o, none⟩ = W.cell? ⟨G.X, o, none⟩) ∧ (∀ o, W'.frozen? ⟨G.X, o, none⟩ = false) := by
  have e := hg.block G.X (h.base .own G.X rfl).2 (fun e => hp (h.apart .own p G.X rfl e.symm).symm)
  exact ⟨fun o => World.cell?_of_block (w := W) e, fun o => (World.frozen?_of_block (w := W) (a := ⟨G.X, o, none⟩) e).trans (h.but.xz id o)⟩

set_option maxRecDepth 100000 in
set_option maxHeartbeats 4000000 in
theorem desk_walk {B : Nat} {W : World} {G : GB} {rs : List (Nat × Nat)} {s : Nat → Dk} {lD lN lC lT : List Value} (h : GrowAt B W G rs s lD lN lC lT) (nD : lD.length ≤ 5) (nN : lN.length ≤ 5) (nC : lC.length ≤ 5) (nT : lT.length ≤ 5)
    (node fr : Nat) (hnode : node < 3) (now : Int) (hfr : (fr : Int) = fromOf now (fenceOf rs node)) (hfb : fr ≤ 1000) (hs1 : 1 ≤ G.span) (hs2 : G.span ≤ 50) (hrs : rs.length ≤ 5) :
    Calls Try.prog 18 #[.pointer (some ⟨G.X, 0, none⟩), .int .i64 node, .int .i64 now] W fun e w' => e = .returned (.bool true) ∧ DeskMade B W w' G rs s lD lN lC lT node fr := by
  have u4 := h.but.x4 id
  have hle := lease_walk (h.but.off id id id) node fr now (by omega) (by rw [mx_from, hfr]) (by omega) (by omega)
  have hnew := fun w => newDesk_yes node fr ((fr : Int) + (G.span : Int)) 100 w ⟨by omega, by omega, by omega, by omega, by omega⟩ (by omega) (by omega)
  obtain ⟨iP, hP, hP0, hP1, hP2⟩ := info_parts ptr_info
  obtain ⟨iI, hI, hI0, hI1, hI2⟩ := info_parts int_info
  obtain ⟨iU, hU, hU0, hU1, hU2⟩ := info_parts u64_row_info
  replace h : Hid _ := h
  clear hfr hrs
  go_enter Try.func18, Try.ntmps18
  go_wp2_with fail
  refine hle.mono ?_
  rintro e w5 ⟨rfl, hL5⟩
  obtain ⟨g5, cap5, h5⟩ := h.out.leased hL5
  have h6 : GrowAt B (w5.alloc (.cells #[.int .i64 node, .int .i64 fr, .int .i64 ((fr : Int) + (G.span : Int))] 39)) { G with g := g5, cap := cap5 } (rs ++ [(node, fr + G.span)]) s lD lN lC lT := h5.below ((Below.refl _ _).alloc (Nat.le_refl _) _)
  have hb6 : Below B W (w5.alloc (.cells #[.int .i64 node, .int .i64 fr, .int .i64 ((fr : Int) + (G.span : Int))] 39)) := by
    have e0 := (h.out.base .own G.X rfl)
    refine (hL5.keep.below (by omega) (fun i hi hs => ?_)).alloc (by have := hL5.keep.size; omega) _
    have e1 := (h.out.base .office G.b rfl).1
    have e2 := (h.out.base .map G.m rfl).1
    have e3 := (h.out.base .row G.g rfl).1
    rcases hs with e | e | e <;> omega
  replace h5 : Hid _ := h5
  replace h6 : Hid _ := h6
  replace hb6 : Hid _ := hb6
  replace hL5 : Hid _ := hL5
  clear hle u4
  go_wp2_with fail
  refine (hnew _).mono ?_
  rintro e w7 ⟨k, hk, rfl, hd7, hb7⟩
  have h7 := h6.out.desked hb7 hk hd7
  have hbl7 : Below B W w7 := hb6.out.trans (hb7.mono (by have := (h6.out.base .own G.X rfl); have e : ({ G with g := g5, cap := cap5 } : GB).X = G.X := rfl; omega))
  have l1 : w7.cell? ⟨w5.heap.size, 1, none⟩ = some (.int .i64 fr) := (hb7.cell (p := ⟨w5.heap.size, 1, none⟩) (by simp)).trans (cell_alloc_new w5 _ _ 1).1
  have y0 : w7.cell? ⟨G.X, 0, none⟩ = some G.vD := h7.but.x0 id
  have y1 : w7.cell? ⟨G.X, 1, none⟩ = some G.vN := h7.but.x1 id
  have y2 : w7.cell? ⟨G.X, 2, none⟩ = some G.vC := h7.but.x2 id
  have y3 : w7.cell? ⟨G.X, 3, none⟩ = some G.vT := h7.but.x3 id
  have hXl : G.X < w7.heap.size := (h7.base .own G.X rfl).2
  have hV7 := h7.below (W' := w7.alloc (.cells #[.pointer (some ⟨k, 0, none⟩)] 35)) ((Below.refl _ _).alloc (Nat.le_refl _) _)
  have hoD : Hid ((w7.alloc (.cells #[.pointer (some ⟨k, 0, none⟩)] 35)).ownsRow B 35 1 G.vD lD.length lD) := hV7.but.rD id
  have hLno : Hid (∀ p, ({ G with g := g5, cap := cap5, dk := upd G.dk G.n k, n := G.n + 1 } : GB).at p ≠ some w5.heap.size) := fun p hp => by
    have hold : ∀ q, ({ G with g := g5, cap := cap5 } : GB).at q ≠ some w5.heap.size := fun q hq => absurd (h5.out.base q _ hq).2 (Nat.lt_irrefl _)
    cases p with
    | desk i =>
      by_cases hi : i = G.n
      · subst hi
        have : (if G.n < G.n + 1 then some (upd G.dk G.n k G.n) else none) = some w5.heap.size := hp
        rw [if_pos (Nat.lt_succ_self _), upd_same] at this
        cases this
        exact absurd hk (by simp)
      · have : (if i < G.n + 1 then some (upd G.dk G.n k i) else none) = some w5.heap.size := hp
        rw [upd_other _ _ _ hi] at this
        refine hold (.desk i) ?_
        show (if i < G.n then some (G.dk i) else none) = _
        by_cases hl : i < G.n
        · rw [if_pos hl]; rw [if_pos (by omega)] at this; exact this
        · rw [if_neg (by omega)] at this; cases this
    | own => exact hold .own hp
    | desks => exact hold .desks hp
    | nodes => exact hold .nodes hp
    | clocks => exact hold .clocks hp
    | last => exact hold .last hp
    | all => exact hold .all hp
    | office => exact hold .office hp
    | map => exact hold .map hp
    | row => exact hold .row hp
    | chan i => exact hold (.chan i) hp
  have hL7 : w5.heap.size < w7.heap.size := by have := hb7.size; simp at this; omega
  have hBw : B ≤ w7.heap.size := by have := (h7.base .own G.X rfl).1; have e : ({ G with g := g5, cap := cap5, dk := upd G.dk G.n k, n := G.n + 1 } : GB).X = G.X := rfl; omega
  have hmD : Hid (lD.length + 1 ≤ maxLen) := by show _ ≤ _; unfold maxLen; omega
  have hmN : Hid (lN.length + 1 ≤ maxLen) := by show _ ≤ _; unfold maxLen; omega
  have hmC : Hid (lC.length + 1 ≤ maxLen) := by show _ ≤ _; unfold maxLen; omega
  have hmT : Hid (lT.length + 1 ≤ maxLen) := by show _ ≤ _; unfold maxLen; omega
  have hbD : Hid ((lD.length + 1) * 8 ≤ 140737488355328) := by show _ ≤ _; omega
  have hbN : Hid ((lN.length + 1) * 8 ≤ 140737488355328) := by show _ ≤ _; omega
  have hbC : Hid ((lC.length + 1) * 8 ≤ 140737488355328) := by show _ ≤ _; omega
  have hbT : Hid ((lT.length + 1) * 8 ≤ 140737488355328) := by show _ ≤ _; omega
  have oD : Hid (∀ u ∈ [Value.pointer (some ⟨k, 0, none⟩)], u.oneCell' = true) := by intro u hu; simp at hu; rw [hu]; rfl
  have oN : Hid (∀ u ∈ [Value.int .i64 (node : Int)], u.oneCell' = true) := by intro u hu; simp at hu; rw [hu]; rfl
  have oC : Hid (∀ u ∈ [Value.int .i64 (fr : Int)], u.oneCell' = true) := by intro u hu; simp at hu; rw [hu]; rfl
  have oT : Hid (∀ u ∈ [Value.int .u64 0], u.oneCell' = true) := by intro u hu; simp at hu; rw [hu]; rfl
  have hszD : Hid (B ≤ (w7.alloc (.cells #[.pointer (some ⟨k, 0, none⟩)] 35)).heap.size) := by show _ ≤ _; simp; omega
  replace h7 : Hid _ := h7
  replace hV7 : Hid _ := hV7
  replace hbl7 : Hid _ := hbl7
  clear hnew hd7 hb7 nD nN nC nT
  go_wp2_with (first
    | (at_builtin; refine wpList_append_own_at _ rfl (.tmp 51) (.tmp 53) 53 rfl B 35 iP _ 1 8 Try.underlying53 hP hP0 hP1 hP2 rfl (by decide) G.vD lD.length lD rfl hoD.out ⟨w7.heap.size, 0, none⟩ 1 1 [.pointer (some ⟨k, 0, none⟩)] rfl rfl (cell_one_new _ _ _) oD.out hmD.out hbD.out hszD.out ?_
       intro v8 w8 hown8 hgrow8 _ hloc8
       obtain ⟨a8, c8, rfl, _⟩ := owns_slc hown8
       have h8 := hV7.out.moreD hown8 hgrow8 hloc8
       have hx8 := grown_cell hV7.out (p := .desks) (by simp) hgrow8
       have k80 : w8.cell? ⟨G.X, 0, none⟩ = some G.vD := (hx8.1 0).trans (hV7.out.but.x0 id)
       have k81 : w8.cell? ⟨G.X, 1, none⟩ = some G.vN := (hx8.1 1).trans (hV7.out.but.x1 id)
       have kz8 : ∀ o, w8.frozen? ⟨G.X, o, none⟩ = false := hx8.2
       have kX8 : G.X < w8.heap.size := Nat.lt_of_lt_of_le hXl (Nat.le_trans (by simp) hgrow8.size)
       replace h8 : Hid _ := h8
       replace hgrow8 : Hid _ := hgrow8
       replace hloc8 : Hid _ := hloc8
       have hW8 := h8.out.below (W' := (w8.setCell ⟨G.X, 0, none⟩ (.slice a8 (lD.length + 1) c8)).alloc (.cells #[.int .i64 (node : Int)] 3)) ((Below.refl _ _).alloc (Nat.le_refl _) _)
       have hoN : Hid (((w8.setCell ⟨G.X, 0, none⟩ (.slice a8 (lD.length + 1) c8)).alloc (.cells #[.int .i64 (node : Int)] 3)).ownsRow B 3 1 G.vN lN.length lN) := hW8.but.rN id
       have hszN : Hid (B ≤ ((w8.setCell ⟨G.X, 0, none⟩ (.slice a8 (lD.length + 1) c8)).alloc (.cells #[.int .i64 (node : Int)] 3)).heap.size) := by
         have e := hgrow8.out.size
         simp at e
         show _ ≤ _
         simp [World.setCell]
         omega
       have hnN : Hid (∀ j u, [Value.int .i64 (node : Int)][j]? = some u → ((w8.setCell ⟨G.X, 0, none⟩ (.slice a8 (lD.length + 1) c8)).alloc (.cells #[.int .i64 (node : Int)] 3)).cell? ((⟨w8.heap.size, 0, none⟩ : Addr).add j) = some u) := by
         have e := cell_one_new (w8.setCell ⟨G.X, 0, none⟩ (.slice a8 (lD.length + 1) c8)) (.int .i64 (node : Int)) 3
         have e2 : (w8.setCell ⟨G.X, 0, none⟩ (.slice a8 (lD.length + 1) c8)).heap.size = w8.heap.size := by simp [World.setCell]
         rw [e2] at e
         exact e
       replace hW8 : Hid _ := hW8
       clear hx8 hown8)
    | (at_builtin; refine wpList_append_own_at _ rfl (.tmp 61) (.tmp 63) 34 rfl B 3 iI _ 1 8 Try.underlying34 hI hI0 hI1 hI2 rfl (by decide) G.vN lN.length lN rfl hoN.out ⟨w8.heap.size, 0, none⟩ 1 1 [.int .i64 (node : Int)] rfl rfl hnN.out oN.out hmN.out hbN.out hszN.out ?_
       intro v9 w9 hown9 hgrow9 _ hloc9
       obtain ⟨a9, c9, rfl, _⟩ := owns_slc hown9
       have h9 := hW8.out.moreN hown9 hgrow9 hloc9
       have hx9 := grown_cell hW8.out (p := .nodes) (by simp) hgrow9
       have k91 : w9.cell? ⟨G.X, 1, none⟩ = some G.vN := (hx9.1 1).trans (hW8.out.but.x1 id)
       have k92 : w9.cell? ⟨G.X, 2, none⟩ = some G.vC := (hx9.1 2).trans (hW8.out.but.x2 id)
       have kz9 : ∀ o, w9.frozen? ⟨G.X, o, none⟩ = false := hx9.2
       replace h9 : Hid _ := h9
       replace hgrow9 : Hid _ := hgrow9
       replace hloc9 : Hid _ := hloc9
       clear hx9 hown9)
    | go_in)
  obtain ⟨V9, hV9⟩ : ∃ V9, V9 = w9.setCell ⟨G.X, 1, none⟩ (.slice a9 (lN.length + 1) c9) := ⟨_, rfl⟩
  have g9 := h9.out
  have hLX : w5.heap.size ≠ G.X := fun e => hLno.out .own (by rw [e]; rfl)
  have hs8 := hgrow8.out.size
  have hs9 := hgrow9.out.size
  simp [World.setCell] at hs8 hs9
  have l9 : V9.cell? ⟨w5.heap.size, 1, none⟩ = some (.int .i64 fr) := by
    have b8 : w8.heap[w5.heap.size]? = w7.heap[w5.heap.size]? := (hgrow8.out.block _ (by simp; omega) (fun e => hLno.out .desks e.symm)).trans (heap_alloc_old _ _ hL7)
    have b9 : w9.heap[w5.heap.size]? = w8.heap[w5.heap.size]? := (hgrow9.out.block _ (by simp [World.setCell]; omega) (fun e => hLno.out .nodes e.symm)).trans ((heap_alloc_old _ _ (by simp [World.setCell]; omega)).trans (Below.heap_setCell _ _ _ _ hLX))
    have bV : V9.heap[w5.heap.size]? = w7.heap[w5.heap.size]? := by rw [hV9, Below.heap_setCell _ _ _ _ hLX, b9, b8]
    exact (World.cell?_of_block (w := w7) (a := ⟨w5.heap.size, 1, none⟩) bV).trans l1
  rw [← hV9] at g9 ⊢
  have v92 : V9.cell? ⟨G.X, 2, none⟩ = some G.vC := g9.but.x2 id
  have v9z : ∀ o, V9.frozen? ⟨G.X, o, none⟩ = false := g9.but.xz id
  have hXV : G.X < V9.heap.size := (g9.base .own G.X rfl).2
  have hLV : w5.heap.size < V9.heap.size := block_lt_of_cell l9
  have hA9 := g9.below (W' := V9.drew.alloc (.cells #[.int .i64 (fr : Int)] 3)) ((below_drewN (Below.refl _ V9) 1).alloc (Nat.le_refl _) _)
  have hoC : Hid ((V9.drew.alloc (.cells #[.int .i64 (fr : Int)] 3)).ownsRow B 3 1 G.vC lC.length lC) := hA9.but.rC id
  have hnC : Hid (∀ j u, [Value.int .i64 (fr : Int)][j]? = some u → (V9.drew.alloc (.cells #[.int .i64 (fr : Int)] 3)).cell? ((⟨V9.heap.size, 0, none⟩ : Addr).add j) = some u) := cell_one_new V9.drew (.int .i64 (fr : Int)) 3
  have hszC : Hid (B ≤ (V9.drew.alloc (.cells #[.int .i64 (fr : Int)] 3)).heap.size) := by have e := (g9.base .own G.X rfl).1; have e2 : B ≤ G.X := e; show _ ≤ _; simp; omega
  have hbV9 : Hid (Below B W V9) := by
    have e0 := (h.out.base .own G.X rfl).1
    have b7 := hbl7.out.alloc hBw (.cells #[.pointer (some ⟨k, 0, none⟩)] 35)
    have b8 := (b7.grown hgrow8.out (by simp; omega) (fun z hz => (hV7.out.base .desks z hz).1)).setCell (p := ⟨G.X, 0, none⟩) e0 (.slice a8 (lD.length + 1) c8)
    have b9 := ((b8.alloc (by simp [World.setCell]; omega) (.cells #[.int .i64 (node : Int)] 3)).grown hgrow9.out (by simp [World.setCell]; omega) (fun z hz => (hW8.out.base .nodes z hz).1)).setCell (p := ⟨G.X, 1, none⟩) e0 (.slice a9 (lN.length + 1) c9)
    rw [hV9]
    exact b9
  replace g9 : Hid _ := g9
  replace hA9 : Hid _ := hA9
  replace hV9 : Hid _ := hV9
  clear k91 k92 kz9 k80 k81 kz8 hs8 hs9 y0 y1 y2 y3 l1
  go_region_law (refine step_append_own rfl (.tmp 71) (.tmp 74) 34 rfl B 3 iI _ 1 8 Try.underlying34 hI hI0 hI1 hI2 rfl (by decide) G.vC lC.length lC (by simp [Act.eval]) hoC.out ⟨V9.heap.size, 0, none⟩ 1 1 [.int .i64 (fr : Int)] (by simp [Act.eval]) rfl hnC.out oC.out hmC.out hbC.out hszC.out ?_
                 intro v10 w10 hown10 hgrow10 hloc10
                 obtain ⟨a10, c10, rfl, _⟩ := owns_slc hown10
                 have h10 := hA9.out.moreC hown10 hgrow10 hloc10
                 have hx10 := grown_cell hA9.out (p := .clocks) (by simp) hgrow10
                 have k102 : w10.cell? ⟨G.X, 2, none⟩ = some G.vC := (hx10.1 2).trans (hA9.out.but.x2 id)
                 have k103 : w10.cell? ⟨G.X, 3, none⟩ = some G.vT := (hx10.1 3).trans (hA9.out.but.x3 id)
                 have kz10 : ∀ o, w10.frozen? ⟨G.X, o, none⟩ = false := hx10.2
                 replace h10 : Hid _ := h10
                 replace hgrow10 : Hid _ := hgrow10
                 replace hloc10 : Hid _ := hloc10
                 clear hx10 hown10)
  all_goals
    have hA10 := h10.out.below (W' := (w10.setCell ⟨G.X, 2, none⟩ (.slice a10 (lC.length + 1) c10)).alloc (.cells #[.int .u64 0] 22)) ((Below.refl _ _).alloc (Nat.le_refl _) _)
    have hs10 := hgrow10.out.size
    simp at hs10
    have hoT : Hid (((w10.setCell ⟨G.X, 2, none⟩ (.slice a10 (lC.length + 1) c10)).alloc (.cells #[.int .u64 0] 22)).ownsRow B 22 1 G.vT lT.length lT) := hA10.but.rT id
    have hszT : Hid (B ≤ ((w10.setCell ⟨G.X, 2, none⟩ (.slice a10 (lC.length + 1) c10)).alloc (.cells #[.int .u64 0] 22)).heap.size) := by
      have e := hszC.out
      simp at e
      show _ ≤ _
      simp [World.setCell]
      omega
    have hnT : Hid (∀ j u, [Value.int .u64 0][j]? = some u → ((w10.setCell ⟨G.X, 2, none⟩ (.slice a10 (lC.length + 1) c10)).alloc (.cells #[.int .u64 0] 22)).cell? ((⟨w10.heap.size, 0, none⟩ : Addr).add j) = some u) := by
      have e := cell_one_new (w10.setCell ⟨G.X, 2, none⟩ (.slice a10 (lC.length + 1) c10)) (.int .u64 0) 22
      have e2 : (w10.setCell ⟨G.X, 2, none⟩ (.slice a10 (lC.length + 1) c10)).heap.size = w10.heap.size := by simp [World.setCell]
      rw [e2] at e
      exact e
    have hX10 : G.X < w10.heap.size := by omega
    replace hA10 : Hid _ := hA10
    go_wp2_with (first
      | (at_builtin; refine wpList_append_own_at _ rfl (.tmp 82) (.tmp 83) 44 rfl B 22 iU _ 1 8 Try.underlying44 hU hU0 hU1 hU2 rfl (by decide) G.vT lT.length lT rfl hoT.out ⟨w10.heap.size, 0, none⟩ 1 1 [.int .u64 0] rfl rfl hnT.out oT.out hmT.out hbT.out hszT.out ?_
         intro v11 w11 hown11 hgrow11 _ hloc11
         obtain ⟨a11, c11, rfl, _⟩ := owns_slc hown11
         have h11 := hA10.out.moreT hown11 hgrow11 hloc11
         have hx11 := grown_cell hA10.out (p := .last) (by simp) hgrow11
         have k113 : w11.cell? ⟨G.X, 3, none⟩ = some G.vT := (hx11.1 3).trans (hA10.out.but.x3 id)
         have kz11 : ∀ o, w11.frozen? ⟨G.X, o, none⟩ = false := hx11.2
         replace h11 : Hid _ := h11
         replace hgrow11 : Hid _ := hgrow11
         clear hx11 hown11)
      | go_in)
    go_ret
    refine ⟨rfl, ⟨g5, cap5, _, _, _, _, k, h11.out⟩, ?_⟩
    have e0 := (h.out.base .own G.X rfl).1
    have eB := hszC.out
    simp at eB
    have b10 := (((below_drewN hbV9.out 1).alloc (by show B ≤ V9.heap.size; omega) (.cells #[.int .i64 (fr : Int)] 3)).grown hgrow10.out (by simp; omega) (fun z hz => (hA9.out.base .clocks z hz).1)).setCell (p := ⟨G.X, 2, none⟩) e0 (.slice a10 (lC.length + 1) c10)
    exact ((b10.alloc (by simp [World.setCell]; omega) (.cells #[.int .u64 0] 22)).grown hgrow11.out (by simp [World.setCell]; omega) (fun z hz => (hA10.out.base .last z hz).1)).setCell (p := ⟨G.X, 3, none⟩) e0 _
end Go.Proofs.Ytdplffhieekfaaa
