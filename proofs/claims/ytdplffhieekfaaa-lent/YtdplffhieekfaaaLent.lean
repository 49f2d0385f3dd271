/-
  stampskeep.Lent: the walk.
-/
import Derived.Test.YtdplffhieekfaaaLentAt
import Derived.Deep.Cut
import Derived.Deep.RegionWith
namespace Go.Proofs.Ytdplffhieekfaaa
open Go.RowKit Go.Maps Go.Lib

theorem tdiv4 (z : Int) (h1 : -9223372036854775808 ≤ z) (h2 : z ≤ 9223372036854775807) : -9223372036854775808 ≤ z.tdiv 4 ∧ z.tdiv 4 ≤ 9223372036854775807 := by
  by_cases h : 0 ≤ z
  · rw [Int.tdiv_eq_ediv_of_nonneg h]; omega
  · have e : z.tdiv 4 = -((-z).tdiv 4) := by rw [Int.neg_tdiv, Int.neg_neg]
    rw [e, Int.tdiv_eq_ediv_of_nonneg (by omega)]; omega

theorem lent_round {w W w5 W6 w8 w9 : World} {b m g cap g5 cap5 E q nd fr : Nat} {u13 u14 v7 v9 : Value} {ls : List L3} (hL : LentAt w W b m g cap (1 + q) E u13 u14 ls) (hn : nd < 4) (hfr : fr + (1 + q) ≤ 2500 + 1000 * (ls.length + 1))
    (hLd : Leased W w5 b m g (1 + q) (recs ls) nd fr) (hg5 : g5 = g ∨ W.heap.size ≤ g5) (X : Value) {Lo : Obj}
    (hW6 : W6 = ((w5.setCell ⟨E, nd, none⟩ X).alloc Lo).alloc Lo)
    (hrow6 : LentRows w.heap.size W6 b m g5 E u13 u14 (recs ls ++ [(nd, fr + (1 + q))]) ls.length ls) (hg7 : W6.grownBy w8 u14.ownBlock)
    (hO7 : OfficeAt w8 b m g5 cap5 (1 + q) (recs ls ++ [(nd, fr + (1 + q))])) (hrow7 : LentRows w.heap.size w8 b m g5 E u13 v7 (recs ls ++ [(nd, fr + (1 + q))]) ls.length (ls ++ [⟨nd, fr, fr + (1 + q)⟩])) {No : Obj}
    (ho9 : w9.ownsRow w.heap.size 3 1 v9 (ls.length + 1) (sizeCells ls.length ++ [.int .i64 ((13 * (ls.length + 1) : Nat) : Int)])) (hg9 : (w8.alloc No).grownBy w9 u13.ownBlock) (hl9 : v9.ownBlock = u13.ownBlock ∨ v9.ownBlock = some (w8.alloc No).heap.size) :
    LentAt w w9 b m g5 cap5 (1 + q) E v9 v7 (ls ++ [⟨nd, fr, fr + (1 + q)⟩]) := by
  have l7 := hO7.lt
  have l0 := hL.off.lt
  have hrs : recs (ls ++ [⟨nd, fr, fr + (1 + q)⟩]) = recs ls ++ [(nd, fr + (1 + q))] := recs_snoc _ _
  have hlen : (ls ++ [(⟨nd, fr, fr + (1 + q)⟩ : L3)]).length = ls.length + 1 := by simp
  have hb9 : ∀ x, x < w8.heap.size → (∀ y, u13.ownBlock = some y → y ≠ x) → w9.heap[x]? = w8.heap[x]? := fun x hx hy => (hg9.block x (by simp; omega) (fun e => hy x e.symm rfl)).trans (heap_alloc_old _ _ hx)
  have hsa := hrow7.sa
  have e1 := hL.bB
  have e2 := hL.mB
  have e3 := hL.gB
  have sW := hL.bel.size
  have s5 := hLd.keep.size
  have hE := hL.rows.eB
  have b5 : Below w.heap.size w w5 := hL.bel.trans (hLd.keep.below sW (fun k hk hs => by rcases hs with h | h | h <;> omega))
  have b6 : Below w.heap.size w W6 := by
    rw [hW6]
    exact ((b5.setCell (p := ⟨E, nd, none⟩) hE _).alloc (by simp [World.setCell]; omega) _).alloc (by simp [World.setCell]; omega) _
  have s6 : w5.heap.size ≤ W6.heap.size := by rw [hW6]; simp [World.setCell]; omega
  have b8 : Below w.heap.size w w8 := b6.grown hg7 (by omega) (fun j hj => (owns_lt hrow6.leases j hj).1)
  have s8 := hg7.size
  have b9 : Below w.heap.size w w9 := (b8.alloc (by omega) No).grown hg9 (by simp; omega) (fun j hj => (owns_lt hrow7.sizes j hj).1)
  have hon := hrow7.on (W1 := w8.alloc No) (fun x hx => heap_alloc_old _ _ hx)
  refine ⟨?_, ?_, e1, e2, ?_, b9, fun j => ?_, fun l hl => ?_⟩
  · rw [hrs]
    exact hO7.on (hb9 b l7.1 (fun y hy => (hsa y hy).1)) (hb9 m l7.2.1 (fun y hy => (hsa y hy).2.1)) (hb9 g5 l7.2.2 (fun y hy => (hsa y hy).2.2.1))
  · rw [hrs, hlen]
    exact hon.sized ho9 hg9 hl9 (by simp; omega) (by simp; omega) (by simp; omega)
  · rcases hg5 with h | h <;> omega
  · rw [hrs, fence_snoc, hlen]
    have := hL.small j
    split <;> (try simp only) <;> omega
  · rw [List.mem_append, List.mem_singleton] at hl
    rcases hl with hl | rfl
    · exact hL.nodes l hl
    · exact hn

theorem owns_sl {w : World} {base : Nat} {e : TypeId} {size : Nat} {v : Value} {n : Nat} {xs : List Value} (h : w.ownsRow base e size v n xs) :
    ∃ a cap, v = .slice a n cap ∧ ∀ j, j < n → ∃ g, a = some ⟨g, 0, none⟩ ∧ g < w.heap.size ∧ ∀ i u, xs[i]? = some u → w.cell? ⟨g, i, none⟩ = some u := by
  rcases h.2 with ⟨rfl, rfl⟩ | ⟨g, cap, cur, rfl, h1, h2, h3⟩
  · exact ⟨none, 0, rfl, fun j hj => by omega⟩
  · refine ⟨some ⟨g, 0, none⟩, cap, rfl, fun j _ => ⟨g, rfl, (Array.getElem?_eq_some_iff.1 h2).1, fun i u hu => ?_⟩⟩
    have := h.cells (g := g) rfl i u hu
    rwa [Lib.add_plain, Nat.zero_add] at this

theorem leaseCells_get (ls : List L3) (j : Nat) (h : j < ls.length) : (leaseCells ls)[3 * j]? = some (.int .i64 (ls[j]).node) ∧ (leaseCells ls)[3 * j + 2]? = some (.int .i64 (ls[j]).to) := by
  induction ls generalizing j with
  | nil => simp at h
  | cons l ls ih =>
    have e : leaseCells (l :: ls) = [.int .i64 l.node, .int .i64 l.frm, .int .i64 l.to] ++ leaseCells ls := by simp [leaseCells]
    rw [e]
    cases j with
    | zero => exact ⟨rfl, rfl⟩
    | succ j =>
      rw [List.getElem?_append_right (by simp; omega), List.getElem?_append_right (by simp; omega)]
      have := ih j (by simpa using h)
      simp only [List.length_cons, List.length_nil, List.getElem_cons_succ]
      rw [show 3 * (j + 1) - (0 + 1 + 1 + 1) = 3 * j from by omega, show 3 * (j + 1) + 2 - (0 + 1 + 1 + 1) = 3 * j + 2 from by omega]
      exact this

theorem sizeCells_get (k j : Nat) (h : j < k) : (sizeCells k)[j]? = some (.int .i64 ((13 * (j + 1) : Nat) : Int)) := by simp [sizeCells, h]

/-- The second loop: the fences behind the leases that are there whole. -/
structure FenceLoop (wx W : World) (rs : List (Nat × Nat)) : Prop where
  cell : ∀ j, j < 4 → W.cell? ⟨wx.heap.size, j, none⟩ = some (.int .i64 (fenceOf rs j))
  fz : ∀ j, W.frozen? ⟨wx.heap.size, j, none⟩ = false
  bel : Below wx.heap.size wx W

theorem FenceLoop.step {wx W : World} {rs : List (Nat × Nat)} (h : FenceLoop wx W rs) (node to : Nat) (hn : node < 4) : FenceLoop wx (W.drew.setCell ⟨wx.heap.size, node, none⟩ (.int .i64 to)) (rs ++ [(node, to)]) := by
  refine ⟨fun j hj => ?_, fun j => by rw [World.frozen?_setCell]; exact h.fz j, (Below.drew h.bel).setCell (Nat.le_refl _) _⟩
  rw [fence_snoc]
  by_cases e : node = j
  · subst e
    rw [if_pos rfl]
    exact World.cell?_setCell_same _ _ _ (h.cell node hn)
  · rw [if_neg e, World.cell?_setCell_other _ _ _ _ (by simp <;> omega)]
    exact h.cell j hj

/-- The third loop: the office that began anew lends to the nodes. -/
structure LendLoop (w4 wx W : World) (b m r : Nat) (rs : List (Nat × Nat)) (k : Nat) : Prop where
  off : ∃ g cap rs2, OfficeAt W b m g cap (1 + r) rs2 ∧ rs2.length ≤ 40 + k ∧ (∀ j, k ≤ j → j < 4 → fenceOf rs2 j = fenceOf rs j) ∧ w4.heap.size ≤ g ∧ g ≠ wx.heap.size
  cell : ∀ j, j < 4 → W.cell? ⟨wx.heap.size, j, none⟩ = some (.int .i64 (fenceOf rs j))
  bel : Below w4.heap.size w4 W

theorem fence_mono {rs : List (Nat × Nat)} (h : Good rs) (k nd : Nat) : fenceOf (rs.take k) nd ≤ fenceOf rs nd := by
  have key : ∀ i, k + i ≤ rs.length → fenceOf (rs.take k) nd ≤ fenceOf (rs.take (k + i)) nd := by
    intro i
    induction i with
    | zero => intro _; exact Nat.le_refl _
    | succ i ih =>
      intro hi
      refine Nat.le_trans (ih (by omega)) ?_
      rw [show k + (i + 1) = k + i + 1 from rfl, List.take_succ_eq_append_getElem (by omega), fence_snoc]
      split
      · rename_i he
        have := (h (k + i) (by omega)).2.2
        rw [he] at this
        omega
      · exact Nat.le_refl _
  by_cases hk : k ≤ rs.length
  · have := key (rs.length - k) (by omega)
    rw [show k + (rs.length - k) = rs.length from by omega, List.take_length] at this
    exact this
  · rw [List.take_of_length_le (by omega)]
    exact Nat.le_refl _

/-- A round of the third loop. -/
theorem LendLoop.step {w4 wx W w5 : World} {b m r k F : Nat} {rs rs2 : List (Nat × Nat)} {g : Nat} (hl : rs2.length ≤ 40 + k) (hf : ∀ j, k ≤ j → j < 4 → fenceOf rs2 j = fenceOf rs j) (hg : w4.heap.size ≤ g) (hgE : g ≠ wx.heap.size)
    (hb : w4.heap.size ≤ b) (hm : w4.heap.size ≤ m) (hbx : b < wx.heap.size) (hmx : m < wx.heap.size) (hc : ∀ j, j < 4 → W.cell? ⟨wx.heap.size, j, none⟩ = some (.int .i64 (fenceOf rs j))) (hbel : Below w4.heap.size w4 W)
    (hL : Leased W w5 b m g (1 + r) rs2 k F) (No : Obj) (d : Nat) : LendLoop w4 wx ((w5.alloc No).drewN d) b m r rs (k + 1) := by
  have hE : wx.heap.size < W.heap.size := block_lt_of_cell (hc 0 (by omega))
  obtain ⟨g', cap', hg', hO'⟩ := hL.off
  have hl' := hO'.lt
  have hon : OfficeAt ((w5.alloc No).drewN d) b m g' cap' (1 + r) (rs2 ++ [(k, F + (1 + r))]) := hO'.on (heap_alloc_old _ _ hl'.1) (heap_alloc_old _ _ hl'.2.1) (heap_alloc_old _ _ hl'.2.2)
  have s5 := hL.keep.size
  have s4 := hbel.size
  refine ⟨⟨g', cap', _, hon, by simp; omega, fun j h1 h2 => ?_, by rcases hg' with h | h <;> omega, by rcases hg' with h | h <;> omega⟩, fun j hj => ?_, ?_⟩
  · rw [fence_snoc, if_neg (by simp; omega)]
    exact hf j (by omega) h2
  · have e1 : ((w5.alloc No).drewN d).heap[wx.heap.size]? = W.heap[wx.heap.size]? := (heap_alloc_old _ _ (by omega)).trans (hL.keep.block _ hE (fun hs => by rcases hs with h | h | h <;> omega))
    exact (World.cell?_of_block (w := W) (a := ⟨wx.heap.size, j, none⟩) e1).trans (hc j hj)
  · exact below_drewN ((hbel.trans (hL.keep.below s4 (fun k hk hs => by rcases hs with h | h | h <;> omega))).alloc (by omega) _) d

theorem mx_fence (x F : Int) (h0 : 0 ≤ F) (h : x < F) : (if (if x < 0 then 0 else x) < F then F else if x < 0 then 0 else x) = F := by
  by_cases hx : x < 0
  · rw [if_pos hx]
    split <;> omega
  · rw [if_neg hx, if_pos h]

theorem mx_now (x F : Int) (h0 : 0 ≤ F) (h : F ≤ x) : (if (if x < 0 then 0 else x) < F then F else if x < 0 then 0 else x) = x := by
  rw [if_neg (show ¬ x < 0 by omega), if_neg (by omega)]

set_option maxRecDepth 100000 in
set_option maxHeartbeats 4000000 in
theorem lent_walk (a : Option Addr) (n c : Nat) (span size other : Int) (w : World) (_hn : n ≤ 9223372036854775807)
    (hs1 : -9223372036854775808 ≤ span) (hs2 : span ≤ 9223372036854775807) (hz1 : -9223372036854775808 ≤ size) (hz2 : size ≤ 9223372036854775807) (ho1 : -9223372036854775808 ≤ other) (ho2 : other ≤ 9223372036854775807)
    (hc : ∀ k, k < n → ∃ b off z, a = some ⟨b, off, none⟩ ∧ w.cell? ⟨b, off + k, none⟩ = some (.int .i64 z) ∧ -9223372036854775808 ≤ z ∧ z ≤ 9223372036854775807) :
    Calls Try.prog 7 #[.slice a n c, .int .i64 span, .int .i64 size, .int .i64 other] w fun e w' => e = .returned (.bool true) ∧ Below w.heap.size w w' := by
  obtain ⟨q, hq, hq1⟩ : ∃ q : Nat, pickI span 1000 = (q : Int) ∧ q < 1000 := by
    have := pickI_bounds span 1000 (by omega)
    exact ⟨(pickI span 1000).toNat, by omega, by omega⟩
  have hps := fun w => pick_any span 1000 w hs1 hs2 (by omega)
  rw [hq] at hps
  have hno : ∀ w, Calls Try.prog 17 #[.string ⟨#[]⟩, .int .i64 (1 + (q : Int))] w fun e w' => ∃ b m g cap, e = .returned (.tuple #[.pointer (some ⟨b, 0, none⟩), .int .i64 0]) ∧ w.heap.size ≤ b ∧ w.heap.size ≤ m ∧ w.heap.size ≤ g ∧ OfficeAt w' b m g cap (1 + q) [] ∧ Below w.heap.size w w' := fun w => by
    have := newOffice_told [] good_nil 0 (1 + q) w (by simp [jtext]) (by omega) (by omega) (by omega)
    rw [show ((1 + q : Nat) : Int) = 1 + (q : Int) from by omega] at this
    exact this
  replace hc : Hid _ := hc
  clear hq hs1 hs2
  go_enter Try.func7, Try.ntmps7
  go_wp2_with fail
  refine (awake_any _).mono ?_
  rintro e w1 ⟨rfl, hb1⟩
  replace hb1 : Hid _ := hb1
  go_wp2_with fail
  refine (hps _).mono ?_
  rintro e w2 ⟨rfl, rfl⟩
  clear hps
  go_wp2_with fail
  refine (hno _).mono ?_
  rintro e w3 ⟨b, m, g, cap, rfl, hbb, hmm, hgg, hO, hb3⟩
  replace hbb : Hid _ := hbb
  replace hmm : Hid _ := hmm
  replace hgg : Hid _ := hgg
  replace hO : Hid _ := hO
  replace hb3 : Hid _ := hb3
  clear hno
  go_wp2
  rename_i K hK
  have hrest : ∀ (vS vL u8 u15 u16 u17 u18 u19 u20 u29 u30 u31 u32 u33 u34 u35 u36 u37 u38 u39 u40 u41 u42 u43 u44 u45 u46 u47 u48 u49 u50 u51 u52 u53 u54 u55 u56 u57 u58 u59 u60 u61 u62 u63 u64 u65 u66 u67 u68 u69 u70 u71 u72 u73 u74 u75 u76 u77 u78 u79 u80 u81 u82 u83 u84 u85 u86 u87 u88 u89 u90 u91 u92 u93 u94 u95 u96 u97 u98 u99 u100 u101 u102 u103 u104 u105 u106 u107 u108 u109 u110 u111 u112 u113 u114 u115 u116 u117 u118 u119 u120 u121 u122 u123 u124 u125 u126 u127 u128 u129 u130 u131 u132 u133 u134 u135 u136 u137 u138 u139 u140 u141 u142 u143 u144 u145 u146 u147 u148 u149 u150 u151 u152 u153 u154 u155 u156 u157 u158 u159 u160 u161 u162 u163 u164 u165 u166 u167 u168 u169 u170 u171 u172 u173 u174 u175 u176 u177 u178 u179 u180 u181 u182 u183 u184 u185 u186 u187 u188 u189 u190 u191 u192 u193 u194 u195 u196 u197 u198 u199 u200 u201 : Value) (wr : World), (∃ (ls : List L3) (g cap : Nat), ls.length ≤ 40 ∧ Hid (LentAt w wr b m g cap (1 + q) w3.heap.size vS vL ls)) → K ⟨#[.slice a n c, .int .i64 (1 + (q : Int)), .int .i64 size, .int .i64 other, undef, undef, undef, undef, u8, .bool true, .pointer (some ⟨b, 0, none⟩), .int .i64 0, .pointer (some ⟨w3.heap.size, 0, none⟩), vS, vL, u15, u16, u17, u18, u19, u20, undef, undef, undef, undef, undef, undef, undef, undef, u29, u30, u31, u32, u33, u34, u35, u36, u37, u38, u39, u40, u41, u42, u43, u44, u45, u46, u47, u48, u49, u50, u51, u52, u53, u54, u55, u56, u57, u58, u59, u60, u61, u62, u63, u64, u65, u66, u67, u68, u69, u70, u71, u72, u73, u74, u75, u76, u77, u78, u79, u80, u81, u82, u83, u84, u85, u86, u87, u88, u89, u90, u91, u92, u93, u94, u95, u96, u97, u98, u99, u100, u101, u102, u103, u104, u105, u106, u107, u108, u109, u110, u111, u112, u113, u114, u115, u116, u117, u118, u119, u120, u121, u122, u123, u124, u125, u126, u127, u128, u129, u130, u131, u132, u133, u134, u135, u136, u137, u138, u139, u140, u141, u142, u143, u144, u145, u146, u147, u148, u149, u150, u151, u152, u153, u154, u155, u156, u157, u158, u159, u160, u161, u162, u163, u164, u165, u166, u167, u168, u169, u170, u171, u172, u173, u174, u175, u176, u177, u178, u179, u180, u181, u182, u183, u184, u185, u186, u187, u188, u189, u190, u191, u192, u193, u194, u195, u196, u197, u198, u199, u200, u201], []⟩ wr := by
    intro vS vL u8 u15 u16 u17 u18 u19 u20 u29 u30 u31 u32 u33 u34 u35 u36 u37 u38 u39 u40 u41 u42 u43 u44 u45 u46 u47 u48 u49 u50 u51 u52 u53 u54 u55 u56 u57 u58 u59 u60 u61 u62 u63 u64 u65 u66 u67 u68 u69 u70 u71 u72 u73 u74 u75 u76 u77 u78 u79 u80 u81 u82 u83 u84 u85 u86 u87 u88 u89 u90 u91 u92 u93 u94 u95 u96 u97 u98 u99 u100 u101 u102 u103 u104 u105 u106 u107 u108 u109 u110 u111 u112 u113 u114 u115 u116 u117 u118 u119 u120 u121 u122 u123 u124 u125 u126 u127 u128 u129 u130 u131 u132 u133 u134 u135 u136 u137 u138 u139 u140 u141 u142 u143 u144 u145 u146 u147 u148 u149 u150 u151 u152 u153 u154 u155 u156 u157 u158 u159 u160 u161 u162 u163 u164 u165 u166 u167 u168 u169 u170 u171 u172 u173 u174 u175 u176 u177 u178 u179 u180 u181 u182 u183 u184 u185 u186 u187 u188 u189 u190 u191 u192 u193 u194 u195 u196 u197 u198 u199 u200 u201 wr hcut
    obtain ⟨ls, g', cap', h40, hL⟩ := hcut
    refine hK _ _ ?_
    clear hK
    obtain ⟨aS, cS, rfl, hcS⟩ := owns_sl hL.out.rows.sizes
    obtain ⟨aL, cL, rfl, hcL⟩ := owns_sl hL.out.rows.leases
    replace hcS : Hid _ := hcS
    replace hcL : Hid _ := hcL
    obtain ⟨J, hJ⟩ : ∃ J, J = jtext (recs ls) := ⟨_, rfl⟩
    have hJl : J.length = 13 * ls.length := by rw [hJ, jtext_length, recs_length]
    have hj := journal_any hL.out.off
    rw [← hJ] at hj
    obtain ⟨sz, hsz, hsz1⟩ : ∃ sz : Nat, pickI size (13 * (ls.length : Int) + 1) = (sz : Int) ∧ sz ≤ 13 * ls.length := by
      have := pickI_bounds size (13 * (ls.length : Int) + 1) (by omega)
      exact ⟨(pickI size (13 * (ls.length : Int) + 1)).toNat, by omega, by omega⟩
    have hk1 := fun w => pick_any size (13 * (ls.length : Int) + 1) w hz1 hz2 (by omega)
    rw [hsz] at hk1
    obtain ⟨r, hr, hr1⟩ : ∃ r : Nat, pickI other 1000 = (r : Int) ∧ r < 1000 := by
      have := pickI_bounds other 1000 (by omega)
      exact ⟨(pickI other 1000).toNat, by omega, by omega⟩
    have hk2 := fun w => pick_any other 1000 w ho1 ho2 (by omega)
    rw [hr] at hk2
    have hno : ∀ w, Calls Try.prog 17 #[.string ((btext J).extract 0 sz), .int .i64 (1 + (r : Int))] w fun e w' => ∃ b m g cap, e = .returned (.tuple #[.pointer (some ⟨b, 0, none⟩), .int .i64 0]) ∧ w.heap.size ≤ b ∧ w.heap.size ≤ m ∧ w.heap.size ≤ g ∧ OfficeAt w' b m g cap (1 + r) ((recs ls).take (sz / 13)) ∧ Below w.heap.size w w' := fun w => by
      have := newOffice_told (recs ls) hL.out.off.good sz (1 + r) w (by rw [jtext_length, recs_length]; exact hsz1) (by omega) (by omega) (by omega)
      rw [show ((1 + r : Nat) : Int) = 1 + (r : Int) from by omega, ← hJ, ← btext_take] at this
      exact this
    replace hJ : Hid _ := hJ
    clear hsz hr
    go_wp2_with fail
    refine hj.mono ?_
    rintro e w4 ⟨rfl, rfl⟩
    clear hj
    go_wp2_with fail
    refine (hk1 _).mono ?_
    rintro e w4 ⟨rfl, rfl⟩
    clear hk1
    have hsz1' : (sz : Int) ≤ 13 * (ls.length : Int) := by omega
    have hwr : IntKind.i64.wrap (1 + (r : Int)) = 1 + (r : Int) := by rw [IntKind.wrap_i64]; omega
    go_upto_region 25 with fail
    go_cut [22, 23] from 129 (fun x y wx => ∃ b2 m2 g2 cap2 : Nat, x = .pointer (some ⟨b2, 0, none⟩) ∧ y = .int .i64 0 ∧ Hid (w4.heap.size ≤ b2 ∧ w4.heap.size ≤ m2 ∧ w4.heap.size ≤ g2 ∧ OfficeAt wx b2 m2 g2 cap2 (1 + r) ((recs ls).take (sz / 13)) ∧ Below w4.heap.size w4 wx))
    case first =>
      go_region_with (first | (go_at_call 11; refine (hk2 _).mono ?_; rintro e w6 ⟨rfl, rfl⟩) | (go_at_call 17; refine (hno _).mono ?_; rintro e w6 ⟨b2, m2, g2, cap2, rfl, x1, x2, x3, x4, x5⟩; have hX : Hid (w4.heap.size ≤ b2 ∧ w4.heap.size ≤ m2 ∧ w4.heap.size ≤ g2 ∧ OfficeAt w6 b2 m2 g2 cap2 (1 + r) ((recs ls).take (sz / 13)) ∧ Below w4.heap.size w4 w6) := ⟨x1, x2, x3, x4, ⟨x5.os, x5.tape, x5.output, x5.size, x5.block⟩⟩; clear x1 x2 x3 x4 x5))
      all_goals (go_wp2_with fail; go_meet; exact ⟨_, _, _, _, rfl, rfl, hX⟩)
    case rest =>
    obtain ⟨b2, m2, g2, cap2, rfl, rfl, hX⟩ := hcut
    clear hno
    go_wp2
    rename_i K2 hK2
    have hK13 : sz / 13 ≤ ls.length := by omega
    have hX' := hX.out
    have hrest2 : ∀ (u25 v29 v30 v31 v32 v33 v34 v35 v36 v37 v38 v39 v40 v41 v42 v43 v44 v45 v46 v47 v48 v49 v50 v51 v52 v53 v54 v55 v56 v57 v58 v59 v60 v61 v62 v63 v64 v65 v66 v67 v68 v69 v70 v71 v72 v73 v74 v75 v76 v77 v78 v79 v80 v81 v82 v83 v84 v85 v86 v87 v88 v89 v90 v91 v92 v93 v94 v95 v96 v97 v98 v99 v100 v101 v102 v103 v104 v105 v106 v107 v108 v109 v110 v111 v112 v113 v114 v115 v116 v117 v118 v119 v120 v121 v122 v123 v124 v125 v126 v127 v128 v129 v130 v131 v132 v133 v134 v135 v136 v137 v138 v139 v140 v141 v142 v143 v144 v145 v146 v147 v148 v149 v150 v151 v152 v153 v154 v155 v156 v157 v158 v159 v160 v161 v162 v163 v164 v165 v166 v167 v168 v169 v170 v171 v172 v173 v174 v175 v176 v177 v178 v179 v180 v181 v182 v183 v184 v185 v186 v187 v188 v189 v190 v191 v192 v193 v194 v195 v196 v197 v198 v199 v200 v201 : Value) (W : World), Hid (FenceLoop wc W ((recs ls).take (sz / 13))) → K2 ⟨#[.slice a n c, .int .i64 (1 + (q : Int)), .int .i64 sz, .int .i64 other, undef, undef, undef, undef, u8, .bool true, .pointer (some ⟨b, 0, none⟩), .int .i64 0, .pointer (some ⟨w3.heap.size, 0, none⟩), .slice aS ls.length cS, .slice aL ls.length cL, u15, u16, u17, u18, u19, u20, .string (btext J), .pointer (some ⟨b2, 0, none⟩), .int .i64 0, .pointer (some ⟨wc.heap.size, 0, none⟩), u25, undef, undef, undef, v29, v30, v31, v32, v33, v34, v35, v36, v37, v38, v39, v40, v41, v42, v43, v44, v45, v46, v47, v48, v49, v50, v51, v52, v53, v54, v55, v56, v57, v58, v59, v60, v61, v62, v63, v64, v65, v66, v67, v68, v69, v70, v71, v72, v73, v74, v75, v76, v77, v78, v79, v80, v81, v82, v83, v84, v85, v86, v87, v88, v89, v90, v91, v92, v93, v94, v95, v96, v97, v98, v99, v100, v101, v102, v103, v104, v105, v106, v107, v108, v109, v110, v111, v112, v113, v114, v115, v116, v117, v118, v119, v120, v121, v122, v123, v124, v125, v126, v127, v128, v129, v130, v131, v132, v133, v134, v135, v136, v137, v138, v139, v140, v141, v142, v143, v144, v145, v146, v147, v148, v149, v150, v151, v152, v153, v154, v155, v156, v157, v158, v159, v160, v161, v162, v163, v164, v165, v166, v167, v168, v169, v170, v171, v172, v173, v174, v175, v176, v177, v178, v179, v180, v181, v182, v183, v184, v185, v186, v187, v188, v189, v190, v191, v192, v193, v194, v195, v196, v197, v198, v199, v200, v201], []⟩ W := by
      intro u25 v29 v30 v31 v32 v33 v34 v35 v36 v37 v38 v39 v40 v41 v42 v43 v44 v45 v46 v47 v48 v49 v50 v51 v52 v53 v54 v55 v56 v57 v58 v59 v60 v61 v62 v63 v64 v65 v66 v67 v68 v69 v70 v71 v72 v73 v74 v75 v76 v77 v78 v79 v80 v81 v82 v83 v84 v85 v86 v87 v88 v89 v90 v91 v92 v93 v94 v95 v96 v97 v98 v99 v100 v101 v102 v103 v104 v105 v106 v107 v108 v109 v110 v111 v112 v113 v114 v115 v116 v117 v118 v119 v120 v121 v122 v123 v124 v125 v126 v127 v128 v129 v130 v131 v132 v133 v134 v135 v136 v137 v138 v139 v140 v141 v142 v143 v144 v145 v146 v147 v148 v149 v150 v151 v152 v153 v154 v155 v156 v157 v158 v159 v160 v161 v162 v163 v164 v165 v166 v167 v168 v169 v170 v171 v172 v173 v174 v175 v176 v177 v178 v179 v180 v181 v182 v183 v184 v185 v186 v187 v188 v189 v190 v191 v192 v193 v194 v195 v196 v197 v198 v199 v200 v201 W hFL
      refine hK2 _ _ ?_
      clear hK2
      have hbelx := hX'.2.2.2.2
      have hOx := hX'.2.2.2.1
      have hRL : (recs ls).length ≤ 40 := by rw [recs_length]; exact h40
      have hsmall : ∀ j, fenceOf ((recs ls).take (sz / 13)) j ≤ 42500 := fun j => Nat.le_trans (fence_mono hL.out.off.good (sz / 13) j) (Nat.le_trans (hL.out.small j) (by omega))
      replace hRL : Hid _ := hRL
      replace hOx : Hid _ := hOx
      replace hsmall : Hid _ := hsmall
      go_wp2
      go_loopw [26] (fun i W' => ∃ k : Nat, i = .int .i64 (k : Int) ∧ k ≤ 4 ∧ Hid (LendLoop w4 wc W' b2 m2 r ((recs ls).take (sz / 13)) k)) (fun i _ => 4 - (RowKit.intOf i).toNat)
      case atStart =>
        have hxl := hOx.out.lt
        have hb := hFL.out.bel
        refine ⟨0, rfl, by omega, ⟨⟨g2, cap2, _, hOx.out.on (hb.block _ hxl.1) (hb.block _ hxl.2.1) (hb.block _ hxl.2.2), ?_, fun j _ _ => rfl, hX'.2.2.1, by omega⟩, hFL.out.cell, hbelx.trans (hb.mono hbelx.size)⟩⟩
        rw [List.length_take]
        have := hRL.out
        omega
      case round =>
        obtain ⟨k, rfl, hk4, hLL⟩ := hrel
        by_cases hk : k < 4
        · obtain ⟨⟨g3, cap3, rs2, hO3, hl3, hf3, hg3, hgE⟩, hcell3, hbel3⟩ := hLL.out
          have hFk := hf3 k (Nat.le_refl _) hk
          have hsk := hsmall.out k
          have c0 := hcell3 k hk
          have hle := lease_walk hO3 k (fenceOf rs2 k) (-5) (by omega) (mx_fence _ _ (by omega) (by omega)) (by omega) (by omega)
          rw [hFk] at hle
          have hxl := hOx.out.lt
          have hE3 : wc.heap.size < wr.heap.size := block_lt_of_cell c0
          have hstep : Hid (∀ w5 No d, Leased wr w5 b2 m2 g3 (1 + r) rs2 k (fenceOf ((recs ls).take (sz / 13)) k) → LendLoop w4 wc ((w5.alloc No).drewN d) b2 m2 r ((recs ls).take (sz / 13)) (k + 1)) := fun w5 No d hLd => LendLoop.step hl3 hf3 hg3 hgE hX'.1 hX'.2.1 hxl.1 hxl.2.1 hcell3 hbel3 hLd No d
          have hkp : Hid (∀ w5, Leased wr w5 b2 m2 g3 (1 + r) rs2 k (fenceOf ((recs ls).take (sz / 13)) k) → w5.cell? ⟨wc.heap.size, k, none⟩ = some (.int .i64 (fenceOf ((recs ls).take (sz / 13)) k))) := fun w5 hLd => by
            have e1 := hLd.keep.block wc.heap.size hE3 (fun hs => by rcases hs with h | h | h <;> omega)
            exact (World.cell?_of_block (w := wr) (a := ⟨wc.heap.size, k, none⟩) e1).trans c0
          rw [show ((1 + r : Nat) : Int) = 1 + (r : Int) from by omega] at hle
          generalize fenceOf ((recs ls).take (sz / 13)) k = F at *
          have hbq : ((F : Int) + (1 + (r : Int)) != (F : Int) + 1 + (r : Int)) = false := by simp; omega
          have hw1 : IntKind.i64.wrap ((F : Int) + 1) = (F : Int) + 1 := by rw [IntKind.wrap_i64]; omega
          have hw2 : IntKind.i64.wrap ((F : Int) + 1 + (r : Int)) = (F : Int) + 1 + (r : Int) := by rw [IntKind.wrap_i64]; omega
          clear hf3 hcell3 hFk hO3 hl3 hg3 hgE hbel3 hX' hbelx hxl
          go_wp2_with fail
          refine hle.mono ?_
          rintro e w5 ⟨rfl, hLd⟩
          have hkeep := hkp.out w5 hLd
          have hE5 : wc.heap.size < w5.heap.size := block_lt_of_cell hkeep
          replace hLd : Hid _ := hLd
          clear hle
          go_wp2
          go_quiet ((go_at_call 11; exact Calls.quiet_of_same (hk2 _)))
          go_wp2
          exact ⟨⟨k + 1, by simp, by omega, hstep.out w5 _ _ hLd.out⟩, by simp [RowKit.intOf]; omega⟩
        · have hk1 : (4 : Int) ≤ (k : Int) := by omega
          go_wp2
          go_ret
          exact ⟨rfl, hL.out.bel.trans (hLL.out.bel.mono hL.out.bel.size)⟩
    clear hK2
    go_loopw [25] (fun i W => ∃ k : Nat, i = .int .i64 (k : Int) ∧ k ≤ sz / 13 ∧ Hid (FenceLoop wc W ((recs ls).take k))) (fun i _ => 41 - (RowKit.intOf i).toNat)
    case atStart =>
      have hcn := fun o => cell_alloc_new wc #[.int .i64 0, .int .i64 0, .int .i64 0, .int .i64 0] 61 o
      refine ⟨0, rfl, Nat.zero_le _, ⟨fun j hj => ?_, fun j => (hcn j).2, (Below.refl _ _).alloc (Nat.le_refl _) _⟩⟩
      rw [(hcn j).1]
      match j, hj with
      | 0, _ => rfl
      | 1, _ => rfl
      | 2, _ => rfl
      | 3, _ => rfl
    case round =>
      obtain ⟨k, rfl, hk, hFL⟩ := hrel
      have hbelx := hX'.2.2.2.2
      by_cases hlt : k < sz / 13
      · obtain ⟨gS, rfl, hgS, hS⟩ := hcS.out k (by omega)
        obtain ⟨gL, rfl, hgL, hLc⟩ := hcL.out k (by omega)
        have hmv : ∀ g i, g < w4.heap.size → wr.cell? ⟨g, i, none⟩ = w4.cell? ⟨g, i, none⟩ := fun g i hg => (hFL.out.bel.cell (p := ⟨g, i, none⟩) (Nat.lt_of_lt_of_le hg hbelx.size)).trans (hbelx.cell (p := ⟨g, i, none⟩) hg)
        have hkl : k < ls.length := by omega
        have hnd4 := hL.out.nodes ls[k] (List.getElem_mem _)
        have c1 := (hmv gS k hgS).trans (hS k _ (sizeCells_get ls.length k hkl))
        have c2 := (hmv gL (3 * k) hgL).trans (hLc _ _ (leaseCells_get ls k hkl).1)
        have c3 := (hmv gL (3 * k + 2) hgL).trans (hLc _ _ (leaseCells_get ls k hkl).2)
        have htk : Hid ((recs ls).take (k + 1) = (recs ls).take k ++ [((ls[k]).node, (ls[k]).to)]) := by
          show _ = _
          rw [List.take_succ_eq_append_getElem (by rw [recs_length]; exact hkl)]
          simp [recs]
        rw [show ((13 * (k + 1) : Nat) : Int) = 13 * ((k : Int) + 1) from by omega] at c1
        rw [Nat.mul_comm 3 k] at c2 c3
        have c4 := hFL.out.cell (ls[k]).node hnd4
        have f4 := hFL.out.fz (ls[k]).node
        have hle : 13 * ((k : Int) + 1) ≤ (sz : Int) := by omega
        have hst := hFL.out.step (ls[k]).node (ls[k]).to hnd4
        rw [← htk.out] at hst
        replace hst : Hid _ := hst
        have hkl' : (k : Int) < (ls.length : Int) := by omega
        have hnd4' : ((ls[k]).node : Int) < 4 := by omega
        clear hmv hS hLc htk hX' hbelx hcS hcL
        generalize (ls[k]).node = nd at *
        generalize (ls[k]).to = tt at *
        go_wp2
        go_region
        go_wp2
        exact ⟨⟨k + 1, by simp, by omega, hst⟩, by simp [RowKit.intOf]; omega⟩
      · have hke : k = sz / 13 := by omega
        rw [hke] at hFL
        by_cases hkn : k < ls.length
        · obtain ⟨gS, rfl, hgS, hS⟩ := hcS.out k hkn
          have c1 := ((hFL.out.bel.cell (p := ⟨gS, k, none⟩) (Nat.lt_of_lt_of_le hgS hbelx.size)).trans (hbelx.cell (p := ⟨gS, k, none⟩) hgS)).trans (hS k _ (sizeCells_get ls.length k hkn))
          rw [show ((13 * (k + 1) : Nat) : Int) = 13 * ((k : Int) + 1) from by omega] at c1
          have hle : (sz : Int) < 13 * ((k : Int) + 1) := by omega
          have hkl' : (k : Int) < (ls.length : Int) := by omega
          clear hS hke hlt
          go_wp2
          exact hFL
        · have hkl' : (ls.length : Int) ≤ (k : Int) := by omega
          clear hke hlt
          go_wp2
          exact hFL
  clear hK
  go_loopw [13, 14, 15] (fun vS vL i W => ∃ (ls : List L3) (g cap : Nat), i = .int .i64 (ls.length : Int) ∧ ls.length ≤ 40 ∧ ls.length ≤ n ∧ Hid (LentAt w W b m g cap (1 + q) w3.heap.size vS vL ls)) (fun _ _ i _ => 40 - (RowKit.intOf i).toNat)
  case atStart =>
    have e1 := hb1.out.size
    have e3 := hb3.out.size
    have x1 := hbb.out
    have x2 := hmm.out
    have x3 := hgg.out
    have hl := hO.out.lt
    have hcn := fun o => cell_alloc_new w3 #[.int .i64 0, .int .i64 0, .int .i64 0, .int .i64 0] 61 o
    refine ⟨[], g, cap, rfl, by simp, by simp, ?_⟩
    refine ⟨hO.out.on (heap_alloc_old _ _ hl.1) (heap_alloc_old _ _ hl.2.1) (heap_alloc_old _ _ hl.2.2), ⟨fun j hj => ?_, fun j => (hcn j).2, ⟨rfl, Or.inl ⟨rfl, rfl⟩⟩, ⟨rfl, Or.inl ⟨rfl, rfl⟩⟩, by omega, by omega, by omega, fun x hx => (by cases hx), fun x hx => (by cases hx), fun x hx => (by cases hx), by omega⟩, by omega, by omega, by omega, ?_, fun j => by simp [recs, fenceOf], fun l hl => by cases hl⟩
    · rw [(hcn j).1]
      match j, hj with
      | 0, _ => rfl
      | 1, _ => rfl
      | 2, _ => rfl
      | 3, _ => rfl
    · exact (hb1.out.trans (hb3.out.mono (by omega))).alloc (by omega) _
  case round =>
    obtain ⟨ls, g', cap', rfl, h40, hln, hL⟩ := hrel
    by_cases hlt : ls.length < n ∧ ls.length < 40
    · obtain ⟨hlt1, hlt2⟩ := hlt
      obtain ⟨bz, off, z, rfl, hcz, z1, z2⟩ := hc.out ls.length hlt1
      have hcell : wr.cell? ⟨bz, off + ls.length, none⟩ = some (.int .i64 z) := (hL.out.bel.cell (p := ⟨bz, off + ls.length, none⟩) (block_lt_of_cell hcz)).trans hcz
      obtain ⟨nd, hnd, hnd4⟩ : ∃ nd : Nat, pickI z 4 = (nd : Int) ∧ nd < 4 := by
        have := pickI_bounds z 4 (by omega)
        exact ⟨(pickI z 4).toNat, by omega, by omega⟩
      obtain ⟨p, hp, hp3⟩ : ∃ p : Nat, pickI (z.tdiv 4) 3000 = (p : Int) ∧ p < 3000 := by
        have := pickI_bounds (z.tdiv 4) 3000 (by omega)
        exact ⟨(pickI (z.tdiv 4) 3000).toNat, by omega, by omega⟩
      have hk1 := fun w => pick_any z 4 w z1 z2 (by omega)
      have hk2 := fun w => pick_any (z.tdiv 4) 3000 w (tdiv4 z z1 z2).1 (tdiv4 z z1 z2).2 (by omega)
      rw [hnd] at hk1
      rw [hp] at hk2
      clear hcz hnd hp
      go_wp2_with fail
      refine (hk1 _).mono ?_
      rintro e w4 ⟨rfl, rfl⟩
      clear hk1
      by_cases hF : (p : Int) - 500 < (fenceOf (recs ls) nd : Int)
      · have hnw : True := trivial
        clear hnw
        have hmx : (if (if (p : Int) - 500 < 0 then 0 else (p : Int) - 500) < (fenceOf (recs ls) nd : Int) then (fenceOf (recs ls) nd : Int) else if (p : Int) - 500 < 0 then 0 else (p : Int) - 500) = (fenceOf (recs ls) nd : Int) := by
          exact mx_fence _ _ (by omega) hF
        have hsm := hL.out.small nd
        have hle := lease_walk hL.out.off nd (fenceOf (recs ls) nd) ((p : Int) - 500) (by omega) hmx (by omega) (by rw [recs_length]; omega)
        rw [show ((1 + q : Nat) : Int) = 1 + (q : Int) from by omega] at hle
        have hrow := hL.out.rows
        have hlt0 := hL.out.off.lt
        clear hmx
        generalize hFF : fenceOf (recs ls) nd = F at *
        go_wp2_with fail
        refine (hk2 _).mono ?_
        rintro e w4 ⟨rfl, rfl⟩
        go_wp2_with fail
        refine hle.mono ?_
        rintro e w5 ⟨rfl, hLd⟩
        obtain ⟨g5, cap5, hg5, hO5⟩ := hLd.off
        have hrow5 := hrow.leased hLd.keep hg5
        have he5 := hrow5.ends nd hnd4
        have hf5 := hrow5.efz nd
        rw [hFF] at he5
        have hE5 : w3.heap.size < w5.heap.size := hrow5.elt
        replace hFF : Hid _ := hFF
        replace hLd : Hid _ := hLd
        replace hO5 : Hid _ := hO5
        replace hrow5 : Hid _ := hrow5
        replace hrow : Hid _ := hrow
        replace hg5 : Hid _ := hg5
        clear hle
        obtain ⟨i0, hi, hz0, hz1', hz2'⟩ := info_parts lease3_info
        obtain ⟨j0, hj, hy0, hy1, hy2⟩ := info_parts int_info
        obtain ⟨W6, hW6⟩ : ∃ W6, W6 = ((w5.setCell ⟨w3.heap.size, nd, none⟩ (.int .i64 ((F : Int) + (1 + (q : Int))))).alloc (.cells #[.int .i64 nd, .int .i64 F, .int .i64 ((F : Int) + (1 + (q : Int)))] 39)).alloc (.cells #[.int .i64 nd, .int .i64 F, .int .i64 ((F : Int) + (1 + (q : Int)))] 39) := ⟨_, rfl⟩
        have hcast : ((F + (1 + q) : Nat) : Int) = (F : Int) + (1 + (q : Int)) := by omega
        have hrow6 : LentRows w.heap.size W6 b m g5 w3.heap.size u13 u14 (recs ls ++ [(nd, F + (1 + q))]) ls.length ls := by
          have := hrow5.out.wrote nd (F + (1 + q)) hnd4
          rw [hcast] at this
          rw [hW6]
          exact (this.on (fun x hx => heap_alloc_old _ _ hx)).on (fun x hx => heap_alloc_old _ _ hx)
        have hO6 : OfficeAt W6 b m g5 cap5 (1 + q) (recs ls ++ [(nd, F + (1 + q))]) := by
          have hl5 := hO5.out.lt
          have hr := hrow5.out
          have hsb : ∀ x, x < w5.heap.size → x ≠ w3.heap.size → W6.heap[x]? = w5.heap[x]? := fun x hx hne => by
            rw [hW6, heap_alloc_old _ _ (by simp [World.setCell]; omega), heap_alloc_old _ _ (by simpa [World.setCell] using hx)]
            exact Below.heap_setCell _ _ _ _ hne
          exact hO5.out.on (hsb b hl5.1 hr.eb.symm) (hsb m hl5.2.1 hr.em.symm) (hsb g5 hl5.2.2 hr.eg.symm)
        have hown6 : Hid (W6.ownsRow w.heap.size 39 3 u14 ls.length (leaseCells ls)) := hrow6.leases
        have hnew6 : Hid (∀ j u, [Value.int .i64 nd, .int .i64 F, .int .i64 ((F : Int) + (1 + (q : Int)))][j]? = some u → W6.cell? ((⟨w5.heap.size + 1, 0, none⟩ : Addr).add j) = some u) := by
          have := cell_three_new ((w5.setCell ⟨w3.heap.size, nd, none⟩ (.int .i64 ((F : Int) + (1 + (q : Int))))).alloc (.cells #[.int .i64 nd, .int .i64 F, .int .i64 ((F : Int) + (1 + (q : Int)))] 39)) (.int .i64 nd) (.int .i64 F) (.int .i64 ((F : Int) + (1 + (q : Int)))) 39
          have hXs : ((w5.setCell ⟨w3.heap.size, nd, none⟩ (.int .i64 ((F : Int) + (1 + (q : Int))))).alloc (.cells #[.int .i64 nd, .int .i64 F, .int .i64 ((F : Int) + (1 + (q : Int)))] 39)).heap.size = w5.heap.size + 1 := by simp [World.setCell]
          rw [hXs] at this
          rw [hW6]
          exact this
        have hsz6 : Hid (w.heap.size ≤ W6.heap.size) := by
          have h1 := hL.out.bel.size
          have h2 := hLd.out.keep.size
          show _ ≤ _
          rw [hW6]
          simp [World.setCell]
          omega
        replace hrow6 : Hid _ := hrow6
        replace hO6 : Hid _ := hO6
        rw [hW6] at hown6 hnew6 hsz6
        replace hW6 : Hid _ := hW6
        replace hcast : Hid _ := hcast
        have hone : Hid (∀ u ∈ [Value.int .i64 nd, .int .i64 F, .int .i64 ((F : Int) + (1 + (q : Int)))], u.oneCell' = true) := by intro u hu; simp at hu; rcases hu with rfl | rfl | rfl <;> rfl
        have hone1 : Hid (∀ u ∈ [Value.int .i64 (13 * ((ls.length : Int) + 1))], u.oneCell' = true) := by intro u hu; simp at hu; rw [hu]; rfl
        have hml : Hid (ls.length + 1 ≤ maxLen) := by show _ ≤ _; unfold maxLen; omega
        have hby : Hid ((ls.length + 1) * 24 ≤ 140737488355328) := by show _ ≤ _; omega
        have hby1 : Hid ((ls.length + 1) * 8 ≤ 140737488355328) := by show _ ≤ _; omega
        obtain ⟨J, hJ⟩ : ∃ J, J = jtext (recs ls ++ [(nd, F + (1 + q))]) := ⟨_, rfl⟩
        have hJl : J.length = 13 * (ls.length + 1) := by rw [hJ, jtext_length, List.length_append, recs_length]; rfl
        replace hJ : Hid _ := hJ
        go_wp2_with (first
          | (at_builtin; refine wpList_append_own_at _ rfl (.tmp 112) (.tmp 114) 62 rfl w.heap.size 39 i0 _ 3 24 Try.underlying62 hi hz0 hz1' hz2' rfl (by decide) u14 ls.length (leaseCells ls) rfl hown6.out ⟨w5.heap.size + 1, 0, none⟩ 1 1 [.int .i64 nd, .int .i64 F, .int .i64 ((F : Int) + (1 + (q : Int)))] rfl rfl hnew6.out hone.out hml.out hby.out hsz6.out ?_
             intro v7 w7 hown7 hgrow7 _ hloc7
             rw [← hW6.out] at hgrow7 hloc7
             have hl6 := hO6.out.lt
             have hr6 := hrow6.out
             have hb7 : ∀ x, x < W6.heap.size → (∀ y, u14.ownBlock = some y → y ≠ x) → w7.heap[x]? = W6.heap[x]? := fun x hx hy => hgrow7.block x hx (fun e => hy x e.symm rfl)
             have hO7 : Hid (OfficeAt w7 b m g5 cap5 (1 + q) (recs ls ++ [(nd, F + (1 + q))])) := hO6.out.on (hb7 b hl6.1 (fun y hy => (hr6.la y hy).1)) (hb7 m hl6.2.1 (fun y hy => (hr6.la y hy).2.1)) (hb7 g5 hl6.2.2 (fun y hy => (hr6.la y hy).2.2.1))
             have hown7' : w7.ownsRow w.heap.size 39 3 v7 (ls.length + 1) (leaseCells ls ++ [.int .i64 nd, .int .i64 F, .int .i64 ((F + (1 + q) : Nat) : Int)]) := by rw [hcast.out]; exact hown7
             have hrow7 : Hid (LentRows w.heap.size w7 b m g5 w3.heap.size u13 v7 (recs ls ++ [(nd, F + (1 + q))]) ls.length (ls ++ [⟨nd, F, F + (1 + q)⟩])) := hr6.kept ⟨nd, F, F + (1 + q)⟩ hown7' hgrow7 hloc7 hl6.1 hl6.2.1 hl6.2.2
             have hs7 : Hid (w7.ownsRow w.heap.size 3 1 u13 ls.length (sizeCells ls.length)) := hrow7.out.sizes
             have hsz7 : Hid (w.heap.size ≤ (w7.alloc (.cells #[Value.int .i64 (13 * ((ls.length : Int) + 1))] 3)).heap.size) := by
               have h1 := hgrow7.size
               have h2 := hsz6.out
               rw [← hW6.out] at h2
               show _ ≤ _
               simp
               omega
             have hj7 := journal_any hO7.out
             rw [← hJ.out] at hj7
             replace hgrow7 : Hid _ := hgrow7
             replace hloc7 : Hid _ := hloc7
             clear hown7 hown7' hb7 hl6 hr6)
          | (go_at_call 21; refine hj7.mono ?_; rintro e w8 ⟨rfl, rfl⟩)
          | (at_builtin; (refine wpList_append_own_at _ rfl (.tmp 116) (.tmp 120) 34 rfl w.heap.size 3 j0 _ 1 8 Try.underlying34 hj hy0 hy1 hy2 rfl (by decide) u13 ls.length (sizeCells ls.length) rfl (hs7.out.alloc _) ⟨w8.heap.size, 0, none⟩ 1 1 [.int .i64 (13 * ((ls.length : Int) + 1))] rfl rfl (cell_one_new _ _ _) hone1.out hml.out hby1.out hsz7.out ?_)
             intro v9 w9 hown9 hgrow9 _ hloc9)
          | go_in)
        refine ⟨⟨ls ++ [⟨nd, F, F + (1 + q)⟩], g5, cap5, by simp, by simp; omega, by simp; omega, ?_⟩, by simp [RowKit.intOf]; omega⟩
        have hown9' : w9.ownsRow w.heap.size 3 1 v9 (ls.length + 1) (sizeCells ls.length ++ [.int .i64 ((13 * (ls.length + 1) : Nat) : Int)]) := by
          rw [show ((13 * (ls.length + 1) : Nat) : Int) = 13 * ((ls.length : Int) + 1) from by omega]; exact hown9
        exact lent_round hL.out hnd4 (by omega) hLd.out hg5.out _ hW6.out hrow6.out hgrow7.out hO7.out hrow7.out hown9' hgrow9 hloc9
      · obtain ⟨nw, hnw⟩ : ∃ nw : Nat, (p : Int) - 500 = (nw : Int) := ⟨((p : Int) - 500).toNat, by omega⟩
        have hmx : (if (if (nw : Int) < 0 then 0 else (nw : Int)) < (fenceOf (recs ls) nd : Int) then (fenceOf (recs ls) nd : Int) else if (nw : Int) < 0 then 0 else (nw : Int)) = (nw : Int) := by
          exact mx_now _ _ (by omega) (by omega)
        have hsm := hL.out.small nd
        have hle := lease_walk hL.out.off nd nw (nw : Int) (by omega) hmx (by omega) (by rw [recs_length]; omega)
        rw [show ((1 + q : Nat) : Int) = 1 + (q : Int) from by omega] at hle
        have hrow := hL.out.rows
        have hlt0 := hL.out.off.lt
        have hnwp : nw < 2500 := by omega
        clear hmx
        generalize hFF : fenceOf (recs ls) nd = F at *
        go_wp2_with fail
        refine (hk2 _).mono ?_
        rintro e w4 ⟨rfl, rfl⟩
        go_wp2_with fail
        refine hle.mono ?_
        rintro e w5 ⟨rfl, hLd⟩
        obtain ⟨g5, cap5, hg5, hO5⟩ := hLd.off
        have hrow5 := hrow.leased hLd.keep hg5
        have he5 := hrow5.ends nd hnd4
        have hf5 := hrow5.efz nd
        rw [hFF] at he5
        have hE5 : w3.heap.size < w5.heap.size := hrow5.elt
        replace hFF : Hid _ := hFF
        replace hLd : Hid _ := hLd
        replace hO5 : Hid _ := hO5
        replace hrow5 : Hid _ := hrow5
        replace hrow : Hid _ := hrow
        replace hg5 : Hid _ := hg5
        clear hle
        obtain ⟨i0, hi, hz0, hz1', hz2'⟩ := info_parts lease3_info
        obtain ⟨j0, hj, hy0, hy1, hy2⟩ := info_parts int_info
        obtain ⟨W6, hW6⟩ : ∃ W6, W6 = ((w5.setCell ⟨w3.heap.size, nd, none⟩ (.int .i64 ((nw : Int) + (1 + (q : Int))))).alloc (.cells #[.int .i64 nd, .int .i64 nw, .int .i64 ((nw : Int) + (1 + (q : Int)))] 39)).alloc (.cells #[.int .i64 nd, .int .i64 nw, .int .i64 ((nw : Int) + (1 + (q : Int)))] 39) := ⟨_, rfl⟩
        have hcast : ((nw + (1 + q) : Nat) : Int) = (nw : Int) + (1 + (q : Int)) := by omega
        have hrow6 : LentRows w.heap.size W6 b m g5 w3.heap.size u13 u14 (recs ls ++ [(nd, nw + (1 + q))]) ls.length ls := by
          have := hrow5.out.wrote nd (nw + (1 + q)) hnd4
          rw [hcast] at this
          rw [hW6]
          exact (this.on (fun x hx => heap_alloc_old _ _ hx)).on (fun x hx => heap_alloc_old _ _ hx)
        have hO6 : OfficeAt W6 b m g5 cap5 (1 + q) (recs ls ++ [(nd, nw + (1 + q))]) := by
          have hl5 := hO5.out.lt
          have hr := hrow5.out
          have hsb : ∀ x, x < w5.heap.size → x ≠ w3.heap.size → W6.heap[x]? = w5.heap[x]? := fun x hx hne => by
            rw [hW6, heap_alloc_old _ _ (by simp [World.setCell]; omega), heap_alloc_old _ _ (by simpa [World.setCell] using hx)]
            exact Below.heap_setCell _ _ _ _ hne
          exact hO5.out.on (hsb b hl5.1 hr.eb.symm) (hsb m hl5.2.1 hr.em.symm) (hsb g5 hl5.2.2 hr.eg.symm)
        have hown6 : Hid (W6.ownsRow w.heap.size 39 3 u14 ls.length (leaseCells ls)) := hrow6.leases
        have hnew6 : Hid (∀ j u, [Value.int .i64 nd, .int .i64 nw, .int .i64 ((nw : Int) + (1 + (q : Int)))][j]? = some u → W6.cell? ((⟨w5.heap.size + 1, 0, none⟩ : Addr).add j) = some u) := by
          have := cell_three_new ((w5.setCell ⟨w3.heap.size, nd, none⟩ (.int .i64 ((nw : Int) + (1 + (q : Int))))).alloc (.cells #[.int .i64 nd, .int .i64 nw, .int .i64 ((nw : Int) + (1 + (q : Int)))] 39)) (.int .i64 nd) (.int .i64 nw) (.int .i64 ((nw : Int) + (1 + (q : Int)))) 39
          have hXs : ((w5.setCell ⟨w3.heap.size, nd, none⟩ (.int .i64 ((nw : Int) + (1 + (q : Int))))).alloc (.cells #[.int .i64 nd, .int .i64 nw, .int .i64 ((nw : Int) + (1 + (q : Int)))] 39)).heap.size = w5.heap.size + 1 := by simp [World.setCell]
          rw [hXs] at this
          rw [hW6]
          exact this
        have hsz6 : Hid (w.heap.size ≤ W6.heap.size) := by
          have h1 := hL.out.bel.size
          have h2 := hLd.out.keep.size
          show _ ≤ _
          rw [hW6]
          simp [World.setCell]
          omega
        replace hrow6 : Hid _ := hrow6
        replace hO6 : Hid _ := hO6
        rw [hW6] at hown6 hnew6 hsz6
        replace hW6 : Hid _ := hW6
        replace hcast : Hid _ := hcast
        have hone : Hid (∀ u ∈ [Value.int .i64 nd, .int .i64 nw, .int .i64 ((nw : Int) + (1 + (q : Int)))], u.oneCell' = true) := by intro u hu; simp at hu; rcases hu with rfl | rfl | rfl <;> rfl
        have hone1 : Hid (∀ u ∈ [Value.int .i64 (13 * ((ls.length : Int) + 1))], u.oneCell' = true) := by intro u hu; simp at hu; rw [hu]; rfl
        have hml : Hid (ls.length + 1 ≤ maxLen) := by show _ ≤ _; unfold maxLen; omega
        have hby : Hid ((ls.length + 1) * 24 ≤ 140737488355328) := by show _ ≤ _; omega
        have hby1 : Hid ((ls.length + 1) * 8 ≤ 140737488355328) := by show _ ≤ _; omega
        obtain ⟨J, hJ⟩ : ∃ J, J = jtext (recs ls ++ [(nd, nw + (1 + q))]) := ⟨_, rfl⟩
        have hJl : J.length = 13 * (ls.length + 1) := by rw [hJ, jtext_length, List.length_append, recs_length]; rfl
        replace hJ : Hid _ := hJ
        go_wp2_with (first
          | (at_builtin; refine wpList_append_own_at _ rfl (.tmp 112) (.tmp 114) 62 rfl w.heap.size 39 i0 _ 3 24 Try.underlying62 hi hz0 hz1' hz2' rfl (by decide) u14 ls.length (leaseCells ls) rfl hown6.out ⟨w5.heap.size + 1, 0, none⟩ 1 1 [.int .i64 nd, .int .i64 nw, .int .i64 ((nw : Int) + (1 + (q : Int)))] rfl rfl hnew6.out hone.out hml.out hby.out hsz6.out ?_
             intro v7 w7 hown7 hgrow7 _ hloc7
             rw [← hW6.out] at hgrow7 hloc7
             have hl6 := hO6.out.lt
             have hr6 := hrow6.out
             have hb7 : ∀ x, x < W6.heap.size → (∀ y, u14.ownBlock = some y → y ≠ x) → w7.heap[x]? = W6.heap[x]? := fun x hx hy => hgrow7.block x hx (fun e => hy x e.symm rfl)
             have hO7 : Hid (OfficeAt w7 b m g5 cap5 (1 + q) (recs ls ++ [(nd, nw + (1 + q))])) := hO6.out.on (hb7 b hl6.1 (fun y hy => (hr6.la y hy).1)) (hb7 m hl6.2.1 (fun y hy => (hr6.la y hy).2.1)) (hb7 g5 hl6.2.2 (fun y hy => (hr6.la y hy).2.2.1))
             have hown7' : w7.ownsRow w.heap.size 39 3 v7 (ls.length + 1) (leaseCells ls ++ [.int .i64 nd, .int .i64 nw, .int .i64 ((nw + (1 + q) : Nat) : Int)]) := by rw [hcast.out]; exact hown7
             have hrow7 : Hid (LentRows w.heap.size w7 b m g5 w3.heap.size u13 v7 (recs ls ++ [(nd, nw + (1 + q))]) ls.length (ls ++ [⟨nd, nw, nw + (1 + q)⟩])) := hr6.kept ⟨nd, nw, nw + (1 + q)⟩ hown7' hgrow7 hloc7 hl6.1 hl6.2.1 hl6.2.2
             have hs7 : Hid (w7.ownsRow w.heap.size 3 1 u13 ls.length (sizeCells ls.length)) := hrow7.out.sizes
             have hsz7 : Hid (w.heap.size ≤ (w7.alloc (.cells #[Value.int .i64 (13 * ((ls.length : Int) + 1))] 3)).heap.size) := by
               have h1 := hgrow7.size
               have h2 := hsz6.out
               rw [← hW6.out] at h2
               show _ ≤ _
               simp
               omega
             have hj7 := journal_any hO7.out
             rw [← hJ.out] at hj7
             replace hgrow7 : Hid _ := hgrow7
             replace hloc7 : Hid _ := hloc7
             clear hown7 hown7' hb7 hl6 hr6)
          | (go_at_call 21; refine hj7.mono ?_; rintro e w8 ⟨rfl, rfl⟩)
          | (at_builtin; (refine wpList_append_own_at _ rfl (.tmp 116) (.tmp 120) 34 rfl w.heap.size 3 j0 _ 1 8 Try.underlying34 hj hy0 hy1 hy2 rfl (by decide) u13 ls.length (sizeCells ls.length) rfl (hs7.out.alloc _) ⟨w8.heap.size, 0, none⟩ 1 1 [.int .i64 (13 * ((ls.length : Int) + 1))] rfl rfl (cell_one_new _ _ _) hone1.out hml.out hby1.out hsz7.out ?_)
             intro v9 w9 hown9 hgrow9 _ hloc9)
          | go_in)
        refine ⟨⟨ls ++ [⟨nd, nw, nw + (1 + q)⟩], g5, cap5, by simp, by simp; omega, by simp; omega, ?_⟩, by simp [RowKit.intOf]; omega⟩
        have hown9' : w9.ownsRow w.heap.size 3 1 v9 (ls.length + 1) (sizeCells ls.length ++ [.int .i64 ((13 * (ls.length + 1) : Nat) : Int)]) := by
          rw [show ((13 * (ls.length + 1) : Nat) : Int) = 13 * ((ls.length : Int) + 1) from by omega]; exact hown9
        exact lent_round hL.out hnd4 (by omega) hLd.out hg5.out _ hW6.out hrow6.out hgrow7.out hO7.out hrow7.out hown9' hgrow9 hloc9
    · by_cases hx : ls.length < n
      · have hx1 : ¬ ((ls.length : Int) < 40) := by omega
        go_wp2
        first | exact ⟨ls, g', cap', h40, hL⟩ | exact ⟨ls, h40, g', cap', hL⟩
      · have hx1 : (n : Int) ≤ (ls.length : Int) := by omega
        go_wp2
        first | exact ⟨ls, g', cap', h40, hL⟩ | exact ⟨ls, h40, g', cap', hL⟩
end Go.Proofs.Ytdplffhieekfaaa
