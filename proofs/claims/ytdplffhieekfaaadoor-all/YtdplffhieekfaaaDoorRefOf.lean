/-
  The document's office: Of.
  Conditions: the office is in memory.
-/
import Derived.Test.YtdplffhieekfaaaDoorRefo
import Derived.Deep.DeepCutAuto
namespace Go.Proofs.YtdplffhieekfaaaDoor
open Go.RowKit Go.Maps Go.Lib

theorem sizeCells_get (n k : Nat) (h : k < n) : (sizeCells n)[k]? = some (.int .i64 ((13 * (k + 1) : Nat) : Int)) := by
  unfold sizeCells
  rw [List.getElem?_map, List.getElem?_range h]
  rfl

/-- Between two rounds: the new office has the first k leases, and the first j sizes. -/
structure OfAt (w W : World) (span : Nat) (ls : List L3) (k j : Nat) (vL vS : Value) : Prop where
  bel : Below w.heap.size w W
  new : ROffAt W (w.heap.size + 1) w.heap.size span vL vS (ls.take k) j

theorem OfAt.start (w : World) (span : Nat) (ls : List L3) (T : TypeId) : OfAt w (w.alloc (.cells #[.int .i64 span, .slice none 0 0, .slice none 0 0] T)) span ls 0 0 (.slice none 0 0) (.slice none 0 0) := by
  have hc := cell_alloc_new w #[.int .i64 span, .slice none 0 0, .slice none 0 0] T
  exact ⟨(Below.refl _ w).alloc (Nat.le_refl _) _, (hc 0).1, (hc 1).1, (hc 2).1, fun o => (hc o).2, owns_nil _ _ _ _, owns_nil _ _ _ _, by simp [Value.ownBlock], by simp [Value.ownBlock], by simp [Value.ownBlock]⟩

theorem OfAt.next {w W W' : World} {span : Nat} {ls : List L3} {k j k' j' : Nat} {vL vS vL' vS' : Value} (h : OfAt w W span ls k j vL vS) {x : Value} (hk : Keep (fun i => i = w.heap.size ∨ x.ownBlock = some i) W W') (hx : ∀ y, x.ownBlock = some y → w.heap.size ≤ y)
    (hn : ROffAt W' (w.heap.size + 1) w.heap.size span vL' vS' (ls.take k') j') : OfAt w W' span ls k' j' vL' vS' :=
  ⟨h.bel.trans (hk.below h.bel.size (fun i hi e => by
    rcases e with e | e
    · omega
    · have := hx i e; omega)), hn⟩

set_option maxRecDepth 100000 in
set_option maxHeartbeats 4000000 in
theorem of_any {w : World} {B r span0 : Nat} {vL vS : Value} {ls : List L3} (h : ROffAt w B r span0 vL vS ls ls.length) (size span : Nat) (hs : size ≤ 13 * ls.length) (hlen : ls.length ≤ 3000000000000) :
    Calls Tryd.prog 55 #[.pointer (some ⟨r, 0, none⟩), .int .i64 size, .int .i64 span] w fun e w' => e = .returned (.pointer (some ⟨w.heap.size, 0, none⟩)) ∧ ∃ vL' vS', OfAt w w' span ls (size / 13) (size / 13) vL' vS' := by
  obtain ⟨i0, hi, hz0, hz1, hz2⟩ := info_parts lease3_info
  obtain ⟨i1, hi', hz0', hz1', hz2'⟩ := info_parts int_info
  have hrl : r < w.heap.size := block_lt_of_cell h.c0
  obtain ⟨la, lcap, hvL⟩ := owns_slice h.leases
  obtain ⟨sa, scap, hvS⟩ := owns_slice h.sizes
  have hh : Hid _ := h
  have hlI : (ls.length : Int) ≤ 3000000000000 := by omega
  have hsI : (size : Int) ≤ 39000000000000 := by omega
  have c1 : Hid (w.cell? ⟨r, 1, none⟩ = some (.slice la ls.length lcap)) := by have := h.c1; rw [hvL] at this; exact this
  have c2 : Hid (w.cell? ⟨r, 2, none⟩ = some (.slice sa ls.length scap)) := by have := h.c2; rw [hvS] at this; exact this
  have oL : Hid (w.ownsRow B 44 3 (.slice la ls.length lcap) ls.length (leaseCells ls)) := by have := h.leases; rw [hvL] at this; exact this
  have oS : Hid (w.ownsRow B 3 1 (.slice sa ls.length scap) ls.length (sizeCells ls.length)) := by have := h.sizes; rw [hvS] at this; exact this
  clear h hvL hvS
  go_enter Tryd.func55, Tryd.ntmps55
  go_wp2_with fail
  go_loopw [8] (fun i W => ∃ k : Nat, k ≤ size / 13 ∧ i = .int .i64 k ∧ Hid (∃ vL' vS', OfAt w W span ls k k vL' vS')) (fun i _ => size / 13 - (RowKit.intOf i).toNat)
  case atStart => exact ⟨0, by omega, rfl, _, _, OfAt.start w span ls _⟩
  case round =>
    obtain ⟨k, hk, rfl, hO⟩ := hrel
    by_cases hlt : k < size / 13
    · have hkl : k < ls.length := by omega
      obtain ⟨gL, cp1, e1⟩ := owns_some oL.out (by omega)
      obtain ⟨gS, cp2, e2⟩ := owns_some oS.out (by omega)
      simp only [Value.slice.injEq, true_and] at e1 e2
      obtain ⟨rfl, rfl⟩ := e1
      obtain ⟨rfl, rfl⟩ := e2
      obtain ⟨vL1, vS1, hO1⟩ := hO.out
      have bel := hO1.bel
      have hrl' : r < wr.heap.size := Nat.lt_of_lt_of_le hrl bel.size
      have d1 : wr.cell? ⟨r, 1, none⟩ = some (.slice (some ⟨gL, 0, none⟩) ls.length lcap) := kept_cell bel hrl c1.out
      have d2 : wr.cell? ⟨r, 2, none⟩ = some (.slice (some ⟨gS, 0, none⟩) ls.length scap) := kept_cell bel hrl c2.out
      obtain ⟨q0, q1, q2⟩ := leaseCells_get ls k hkl
      have e0 := oL.out.cells (g := gL) rfl _ _ q0
      have e1 := oL.out.cells (g := gL) rfl _ _ q1
      have e2 := oL.out.cells (g := gL) rfl _ _ q2
      have e3 := oS.out.cells (g := gS) rfl _ _ (sizeCells_get ls.length k hkl)
      rw [addr_add0] at e0 e1 e2 e3
      have gLl : gL < w.heap.size := block_lt_of_cell e0
      have gSl : gS < w.heap.size := block_lt_of_cell e3
      have t0 := kept_cell bel gLl e0
      have t1 := kept_cell bel gLl e1
      have t2 := kept_cell bel gLl e2
      have t3 := kept_cell bel gSl e3
      have hsz : ((13 * (k + 1) : Nat) : Int) ≤ (size : Int) := by omega
      have hkI : (k : Int) < (ls.length : Int) := by omega
      have hk0 : (0 : Int) ≤ (k : Int) := by omega
      clear e0 e1 e2 e3 q0 q1 q2 hO bel
      generalize hnn : ls[k].node = nd at *
      generalize hff : ls[k].frm = ff at *
      generalize htt : ls[k].to = tt at *
      have hl3 : Hid (ls.take (k + 1) = ls.take k ++ [⟨nd, ff, tt⟩]) := by
        show _ = _
        rw [List.take_succ_eq_append_getElem hkl, ← hnn, ← hff, ← htt]
      replace hO1 : Hid _ := hO1
      clear hnn hff htt
      generalize hsv : ((13 * (k + 1) : Nat) : Int) = sv at *
      replace hsv : Hid _ := hsv
      go_upto_region 5 with fail
      go_cut [8] (fun i wx => i = .int .i64 k ∧ Hid (∃ vL2, OfAt w wx span ls (k + 1) k vL2 vS1))
      case first =>
        have hN := hO1.out.new
        obtain ⟨a1, cap1, hv1⟩ := owns_slice hN.leases
        have hlk : (ls.take k).length = k := by rw [List.length_take]; omega
        rw [hlk] at hv1
        have hNl : w.heap.size < wr.heap.size := block_lt_of_cell hN.c0
        have n1 : wr.cell? ⟨w.heap.size, 1, none⟩ = some (.slice a1 k cap1) := by have := hN.c1; rw [hv1] at this; exact this
        have nz : wr.frozen? ⟨w.heap.size, 1, none⟩ = false := hN.fz 1
        have hown : Hid (wr.ownsRow (w.heap.size + 1) 44 3 (.slice a1 k cap1) k (leaseCells (ls.take k))) := by have := hN.leases; rw [hlk, hv1] at this; exact this
        have hlr : (Value.slice a1 k cap1).ownBlock ≠ some w.heap.size := by have := hN.rl; rw [hv1] at this; exact this
        have gLr : gL < wr.heap.size := Nat.lt_trans gLl hNl
        have hnews : Hid (∀ j u, [Value.int .i64 nd, .int .i64 ff, .int .i64 tt][j]? = some u → ((wr.alloc (.cells #[.int .i64 nd, .int .i64 ff, .int .i64 tt] 44)).drew).cell? ((⟨wr.heap.size, 0, none⟩ : Addr).add j) = some u) := fun j u hj =>
          World.news_of_block (cs := #[.int .i64 nd, .int .i64 ff, .int .i64 tt]) (t := 44) (fr := (0, 0)) (heap_alloc_new wr _) j u hj
        have hfin : Hid (∀ gg cap w1, w1.ownsRow (w.heap.size + 1) 44 3 (.slice (some ⟨gg, 0, none⟩) (k + 1) cap) (k + 1) (leaseCells (ls.take k) ++ [.int .i64 nd, .int .i64 ff, .int .i64 tt]) → ((wr.alloc (.cells #[.int .i64 nd, .int .i64 ff, .int .i64 tt] 44)).drew).grownBy w1 (Value.slice a1 k cap1).ownBlock → ((Value.slice a1 k cap1).ownBlock = some gg ∨ gg = wr.heap.size + 1) → OfAt w (w1.setCell ⟨w.heap.size, 1, none⟩ (.slice (some ⟨gg, 0, none⟩) (k + 1) cap)) span ls (k + 1) k (.slice (some ⟨gg, 0, none⟩) (k + 1) cap) vS1) := fun gg cap w1 ho hg ha => by
          rw [← hv1] at hg ha
          have hgr := hN.grewL ⟨nd, ff, tt⟩ (gg := gg) (cap := cap) (w1 := w1) (by rw [hlk]; exact ho) hg ha
          rw [hlk, ← hl3.out] at hgr
          exact hO1.out.next hgr.2 (fun y hy => by have := (owns_in hN.leases y hy).1; omega) hgr.1
        clear hN hv1
        go_region_law
          (refine step_append_lies _ (by rfl) _ _ _ (by rfl) (w.heap.size + 1) 44 i0 _ 3 24 Tryd.underlying101 hi hz0 hz1 hz2 rfl (by omega) (.slice a1 k cap1) k (leaseCells (ls.take k)) (by rfl) ((hown.out.alloc _).drew) ⟨wr.heap.size, 0, none⟩ 1 1 [.int .i64 nd, .int .i64 ff, .int .i64 tt] (by rfl) (by rfl) hnews.out (by simp [Value.oneCell']) (by omega) (by unfold maxLen; omega) (by omega) (by simp; omega) (wr.heap.size + 1) (by simp) ?_
           intro gg cap w1 hown1 hgrow hat hlt1
           have f1 : w1.frozen? ⟨w.heap.size, 1, none⟩ = false := (hgrow.frozen_far ⟨w.heap.size, 1, none⟩ (by show w.heap.size < (wr.alloc _).heap.size; simp; omega) (Ne.symm hlr)).trans ((World.frozen?_of_block (w := wr) (a := ⟨w.heap.size, 1, none⟩) (heap_alloc_old wr _ hNl)).trans nz)
           have x1 : w1.cell? ⟨w.heap.size, 1, none⟩ = some (.slice a1 k cap1) := (hgrow.cell_far ⟨w.heap.size, 1, none⟩ (by show w.heap.size < (wr.alloc _).heap.size; simp; omega) (Ne.symm hlr)).trans ((World.cell?_of_block (w := wr) (a := ⟨w.heap.size, 1, none⟩) (heap_alloc_old wr _ hNl)).trans n1)
           have hO2 : Hid (OfAt w (w1.setCell ⟨w.heap.size, 1, none⟩ (.slice (some ⟨gg, 0, none⟩) (k + 1) cap)) span ls (k + 1) k (.slice (some ⟨gg, 0, none⟩) (k + 1) cap) vS1) := hfin.out gg cap w1 hown1 hgrow hat
           clear hown1 hgrow hat hlt1)
        all_goals
          go_wp2_with fail
          go_meet
          exact ⟨rfl, _, hO2.out⟩
      case rest =>
      obtain ⟨rfl, hM⟩ := hcut
      clear hO1 d1 d2 t0 t1 t2 t3 hl3 hrl' hkI
      obtain ⟨vL2, hO2⟩ := hM.out
      have bel := hO2.bel
      have d1 : wc.cell? ⟨r, 1, none⟩ = some (.slice (some ⟨gL, 0, none⟩) ls.length lcap) := kept_cell bel hrl c1.out
      have d2 : wc.cell? ⟨r, 2, none⟩ = some (.slice (some ⟨gS, 0, none⟩) ls.length scap) := kept_cell bel hrl c2.out
      have e3 := oS.out.cells (g := gS) rfl _ _ (sizeCells_get ls.length k hkl)
      rw [addr_add0, hsv.out] at e3
      have t3 := kept_cell bel gSl e3
      have hkI : (k : Int) < (ls.length : Int) := by omega
      have hN := hO2.new
      obtain ⟨a1, cap1, hv1⟩ := owns_slice hN.sizes
      have hNl : w.heap.size < wc.heap.size := block_lt_of_cell hN.c0
      have n1 : wc.cell? ⟨w.heap.size, 2, none⟩ = some (.slice a1 k cap1) := by have := hN.c2; rw [hv1] at this; exact this
      have nz : wc.frozen? ⟨w.heap.size, 2, none⟩ = false := hN.fz 2
      have hown : Hid (wc.ownsRow (w.heap.size + 1) 3 1 (.slice a1 k cap1) k (sizeCells k)) := by have := hN.sizes; rw [hv1] at this; exact this
      have hlr : (Value.slice a1 k cap1).ownBlock ≠ some w.heap.size := by have := hN.rz; rw [hv1] at this; exact this
      have gSr : gS < wc.heap.size := Nat.lt_trans gSl hNl
      have hrc : r < wc.heap.size := Nat.lt_trans hrl hNl
      have hnews : Hid (∀ j u, [Value.int .i64 sv][j]? = some u → ((wc.alloc (.cells #[.int .i64 sv] 3)).drew).cell? ((⟨wc.heap.size, 0, none⟩ : Addr).add j) = some u) := fun j u hj =>
        World.news_of_block (cs := #[.int .i64 sv]) (t := 3) (fr := (0, 0)) (heap_alloc_new wc _) j u hj
      have hfin : Hid (∀ gg cap w1, w1.ownsRow (w.heap.size + 1) 3 1 (.slice (some ⟨gg, 0, none⟩) (k + 1) cap) (k + 1) (sizeCells k ++ [.int .i64 sv]) → ((wc.alloc (.cells #[.int .i64 sv] 3)).drew).grownBy w1 (Value.slice a1 k cap1).ownBlock → ((Value.slice a1 k cap1).ownBlock = some gg ∨ gg = wc.heap.size + 1) → ∃ vL' vS', OfAt w (w1.setCell ⟨w.heap.size, 2, none⟩ (.slice (some ⟨gg, 0, none⟩) (k + 1) cap)) span ls (k + 1) (k + 1) vL' vS') := fun gg cap w1 ho hg ha => by
        rw [← hv1] at hg ha
        have hgr := hN.grewS (gg := gg) (cap := cap) (w1 := w1) (by rw [hsv.out]; exact ho) hg ha
        exact ⟨_, _, hO2.next hgr.2 (fun y hy => by have := (owns_in hN.sizes y hy).1; omega) hgr.1⟩
      clear hN hv1 bel hO2 hM e3
      go_upto_region 6 with fail
      go_region_law
        (refine step_append_lies _ (by rfl) _ _ _ (by rfl) (w.heap.size + 1) 3 i1 _ 1 8 Tryd.underlying102 hi' hz0' hz1' hz2' rfl (by omega) (.slice a1 k cap1) k (sizeCells k) (by rfl) ((hown.out.alloc _).drew) ⟨wc.heap.size, 0, none⟩ 1 1 [.int .i64 sv] (by rfl) (by rfl) hnews.out (by simp [Value.oneCell']) (by omega) (by unfold maxLen; omega) (by omega) (by simp; omega) (wc.heap.size + 1) (by simp) ?_
         intro gg cap w1 hown1 hgrow hat hlt1
         have f1 : w1.frozen? ⟨w.heap.size, 2, none⟩ = false := (hgrow.frozen_far ⟨w.heap.size, 2, none⟩ (by show w.heap.size < (wc.alloc _).heap.size; simp; omega) (Ne.symm hlr)).trans ((World.frozen?_of_block (w := wc) (a := ⟨w.heap.size, 2, none⟩) (heap_alloc_old wc _ hNl)).trans nz)
         have x1 : w1.cell? ⟨w.heap.size, 2, none⟩ = some (.slice a1 k cap1) := (hgrow.cell_far ⟨w.heap.size, 2, none⟩ (by show w.heap.size < (wc.alloc _).heap.size; simp; omega) (Ne.symm hlr)).trans ((World.cell?_of_block (w := wc) (a := ⟨w.heap.size, 2, none⟩) (heap_alloc_old wc _ hNl)).trans n1)
         have hO3 : Hid (∃ vL' vS', OfAt w (w1.setCell ⟨w.heap.size, 2, none⟩ (.slice (some ⟨gg, 0, none⟩) (k + 1) cap)) span ls (k + 1) (k + 1) vL' vS') := hfin.out gg cap w1 hown1 hgrow hat
         clear hown1 hgrow hat hlt1)
      all_goals
        go_wp2
        exact ⟨⟨k + 1, by omega, by go_num, hO3⟩, by simp [RowKit.intOf]; omega⟩
    · have hke : k = size / 13 := by omega
      subst hke
      obtain ⟨vL1, vS1, hO1⟩ := hO.out
      have bel := hO1.bel
      have d1 : wr.cell? ⟨r, 1, none⟩ = some (.slice la ls.length lcap) := kept_cell bel hrl c1.out
      have d2 : wr.cell? ⟨r, 2, none⟩ = some (.slice sa ls.length scap) := kept_cell bel hrl c2.out
      have hfin : Hid (∃ vL' vS', OfAt w wr span ls (size / 13) (size / 13) vL' vS') := hO.out
      clear hO hO1 hlt hk
      by_cases hK : size / 13 < ls.length
      · obtain ⟨gS, cp2, e2⟩ := owns_some oS.out (by omega)
        simp only [Value.slice.injEq, true_and] at e2
        obtain ⟨rfl, rfl⟩ := e2
        have e3 := oS.out.cells (g := gS) rfl _ _ (sizeCells_get ls.length (size / 13) hK)
        rw [addr_add0] at e3
        have gSl : gS < w.heap.size := block_lt_of_cell e3
        have t3 := kept_cell bel gSl e3
        have hkI : ((size / 13 : Nat) : Int) < (ls.length : Int) := by omega
        have hk0 : (0 : Int) ≤ ((size / 13 : Nat) : Int) := by omega
        have hsz : (size : Int) < ((13 * (size / 13 + 1) : Nat) : Int) := by omega
        clear e3 bel hK
        generalize hkk : size / 13 = K at *
        replace hkk : Hid _ := hkk
        generalize ((13 * (K + 1) : Nat) : Int) = sv at *
        go_wp2
        go_ret
        exact ⟨rfl, by rw [hkk.out]; exact hfin.out⟩
      · have hkI : (ls.length : Int) ≤ ((size / 13 : Nat) : Int) := by omega
        clear bel hK
        generalize hkk : size / 13 = K at *
        replace hkk : Hid _ := hkk
        go_wp2
        go_ret
        exact ⟨rfl, by rw [hkk.out]; exact hfin.out⟩
end Go.Proofs.YtdplffhieekfaaaDoor
