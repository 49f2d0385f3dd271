/-
  The document's office in memory; its Lease.
  The document's office: Lease.
  Conditions: the office is in memory, its leases can have been given.
  The document's office in memory: a lease more, a size more.
-/
import Derived.Test.YtdplffhieekfaaaDoorOffs
import Derived.Test.YtdplffhieekfaaaDoorWorlds
import Derived.Deep.AppendLies
import Derived.Deep.RegionLaw
import Derived.Deep.Cut
import Derived.BigQuiet
namespace Go.Proofs.YtdplffhieekfaaaDoor
open Go.RowKit Go.Maps Go.Lib

/-- The document's office in memory: its block; its leases, its sizes. -/
structure ROffAt (w : World) (B r : Nat) (span : Nat) (vL vS : Value) (ls : List L3) (ns : Nat) : Prop where
  c0 : w.cell? ⟨r, 0, none⟩ = some (.int .i64 span)
  c1 : w.cell? ⟨r, 1, none⟩ = some vL
  c2 : w.cell? ⟨r, 2, none⟩ = some vS
  fz : ∀ o, w.frozen? ⟨r, o, none⟩ = false
  leases : w.ownsRow B 44 3 vL ls.length (leaseCells ls)
  sizes : w.ownsRow B 3 1 vS ns (sizeCells ns)
  rl : vL.ownBlock ≠ some r
  rz : vS.ownBlock ≠ some r
  lz : ∀ x, vL.ownBlock = some x → vS.ownBlock ≠ some x

theorem leaseCells_length (ls : List L3) : (leaseCells ls).length = ls.length * 3 := by
  induction ls with
  | nil => rfl
  | cons l ls ih =>
    show (_ ++ leaseCells ls).length = _
    rw [List.length_append, ih]
    show 3 + ls.length * 3 = (ls.length + 1) * 3
    omega

theorem leaseCells_get (ls : List L3) (k : Nat) (hk : k < ls.length) : (leaseCells ls)[k * 3]? = some (.int .i64 (ls[k].node : Nat)) ∧ (leaseCells ls)[k * 3 + 1]? = some (.int .i64 (ls[k].frm : Nat)) ∧ (leaseCells ls)[k * 3 + 2]? = some (.int .i64 (ls[k].to : Nat)) := by
  induction ls generalizing k with
  | nil => simp at hk
  | cons l ls ih =>
    have hcons : leaseCells (l :: ls) = [.int .i64 l.node, .int .i64 l.frm, .int .i64 l.to] ++ leaseCells ls := rfl
    rw [hcons]
    cases k with
    | zero => exact ⟨rfl, rfl, rfl⟩
    | succ k =>
      obtain ⟨h1, h2, h3⟩ := ih k (by simpa using hk)
      rw [List.getElem?_append_right (by simp; omega), List.getElem?_append_right (by simp; omega), List.getElem?_append_right (by simp; omega)]
      rw [show (k + 1) * 3 - [Value.int .i64 (l.node : Int), .int .i64 l.frm, .int .i64 l.to].length = k * 3 by simp; omega, show (k + 1) * 3 + 1 - [Value.int .i64 (l.node : Int), .int .i64 l.frm, .int .i64 l.to].length = k * 3 + 1 by simp; omega, show (k + 1) * 3 + 2 - [Value.int .i64 (l.node : Int), .int .i64 l.frm, .int .i64 l.to].length = k * 3 + 2 by simp; omega]
      exact ⟨h1, h2, h3⟩

/-- It stays while its blocks do. -/
theorem ROffAt.on {w w' : World} {B r span ns : Nat} {vL vS : Value} {ls : List L3} (h : ROffAt w B r span vL vS ls ns) (hb : w'.heap[r]? = w.heap[r]?) (hl : ∀ x, vL.ownBlock = some x → w'.heap[x]? = w.heap[x]?) (hs : ∀ x, vS.ownBlock = some x → w'.heap[x]? = w.heap[x]?) : ROffAt w' B r span vL vS ls ns := by
  have hc : ∀ o, w'.cell? ⟨r, o, none⟩ = w.cell? ⟨r, o, none⟩ := fun o => World.cell?_of_block (w := w) hb
  exact ⟨(hc 0).trans h.c0, (hc 1).trans h.c1, (hc 2).trans h.c2, fun o => (World.frozen?_of_block (w := w) (a := ⟨r, o, none⟩) hb).trans (h.fz o), owns_stay h.leases hl, owns_stay h.sizes hs, h.rl, h.rz, h.lz⟩

/-- Where a window begins, reckoned by all leases. -/
theorem from_step {ls : List L3} (hg : Good (recs ls)) {k : Nat} (hk : k < ls.length) (node : Nat) (now : Int) :
    fromOf now (fenceOf (recs (ls.take (k + 1))) node) = if ls[k].node = node ∧ fromOf now (fenceOf (recs (ls.take k)) node) < (ls[k].to : Int) then (ls[k].to : Int) else fromOf now (fenceOf (recs (ls.take k)) node) := by
  have hk' : k < (recs ls).length := by rw [recs_length]; exact hk
  have g := (hg k hk').2.2
  have e1 : (recs ls)[k] = (ls[k].node, ls[k].to) := by simp [recs]
  have e2 : (recs ls).take k = recs (ls.take k) := by simp [recs]
  rw [e1, e2] at g
  rw [List.take_succ_eq_append_getElem hk, recs_snoc, fence_snoc]
  simp only at g ⊢
  by_cases hn : ls[k].node = node
  · subst hn
    rw [if_pos rfl]
    unfold fromOf
    simp only [true_and]
    split <;> omega
  · rw [if_neg hn, if_neg (fun e => hn e.1)]

theorem lease3_info : (Tryd.prog.info? 44).map (fun i => (i.zero, i.size, i.bytes)) = some (some (.agg #[.int .i64 0, .int .i64 0, .int .i64 0]), 3, 24) := by kernel_rfl
theorem int_info : (Tryd.prog.info? 3).map (fun i => (i.zero, i.size, i.bytes)) = some (some (.int .i64 0), 1, 8) := by kernel_rfl

theorem cell_three_new (w : World) (x y z : Value) (t : TypeId) : ∀ j u, [x, y, z][j]? = some u → (w.alloc (.cells #[x, y, z] t)).cell? ((⟨w.heap.size, 0, none⟩ : Addr).add j) = some u := by
  intro j u hj
  rw [Lib.add_plain, Nat.zero_add, (cell_alloc_new w #[x, y, z] t j).1]
  simpa using hj

set_option maxRecDepth 100000 in
set_option maxHeartbeats 1000000 in
theorem rlease_node (r : Nat) (node now : Int) (w : World) (hn : node < 0 ∨ 1024 ≤ node) :
    Calls Tryd.prog 58 #[.pointer (some ⟨r, 0, none⟩), .int .i64 node, .int .i64 now] w fun e w' => e = .returned (.tuple #[.agg #[.int .i64 0, .int .i64 0, .int .i64 0], .int .i64 3]) ∧ Below w.heap.size w w' := by
  by_cases h0 : node < 0
  · clear hn
    go_enter Tryd.func58, Tryd.ntmps58
    go_wp2
    refine bodyPost_ret (v := .tuple #[.agg #[.int .i64 0, .int .i64 0, .int .i64 0], .int .i64 3]) (by simp [results, Tryd.results58, go_sem]) rfl ⟨rfl, ?_⟩
    exact (Below.refl _ w).alloc (Nat.le_refl _) _
  · have h1 : 1024 ≤ node := by omega
    clear hn
    go_enter Tryd.func58, Tryd.ntmps58
    go_wp2
    refine bodyPost_ret (v := .tuple #[.agg #[.int .i64 0, .int .i64 0, .int .i64 0], .int .i64 3]) (by simp [results, Tryd.results58, go_sem]) rfl ⟨rfl, ?_⟩
    exact (Below.refl _ w).alloc (Nat.le_refl _) _
end Go.Proofs.YtdplffhieekfaaaDoor
namespace Go.Proofs.YtdplffhieekfaaaDoor
open Go.RowKit Go.Maps Go.Lib

/-- What Lease leaves. -/
theorem rlease_done {w V w1 : World} {B r span ns gg cap : Nat} {vL vS : Value} {ls : List L3} {Z : Obj} (l : L3) (h : ROffAt w B r span vL vS ls ns) (hVb : Below w.heap.size w V) (hVs : V.heap.size = w.heap.size + 2)
    (hown1 : w1.ownsRow B 44 3 (.slice (some ⟨gg, 0, none⟩) (ls.length + 1) cap) (ls.length + 1) (leaseCells ls ++ [.int .i64 l.node, .int .i64 l.frm, .int .i64 l.to])) (hgrow : ((V.alloc Z).drew).grownBy w1 vL.ownBlock) (hat : vL.ownBlock = some gg ∨ gg = V.heap.size + 1) (x0 x1 x2 : Value) :
    ROffAt ((((w1.setCell ⟨r, 1, none⟩ (.slice (some ⟨gg, 0, none⟩) (ls.length + 1) cap)).setCell ⟨w.heap.size, 0, none⟩ x0).setCell ⟨w.heap.size, 1, none⟩ x1).setCell ⟨w.heap.size, 2, none⟩ x2) B r span (.slice (some ⟨gg, 0, none⟩) (ls.length + 1) cap) vS (ls ++ [l]) ns ∧
      ((Value.slice (some ⟨gg, 0, none⟩) (ls.length + 1) cap).ownBlock = vL.ownBlock ∨ ∃ x, (Value.slice (some ⟨gg, 0, none⟩) (ls.length + 1) cap).ownBlock = some x ∧ w.heap.size ≤ x) ∧
      Keep (fun i => i = r ∨ vL.ownBlock = some i) w ((((w1.setCell ⟨r, 1, none⟩ (.slice (some ⟨gg, 0, none⟩) (ls.length + 1) cap)).setCell ⟨w.heap.size, 0, none⟩ x0).setCell ⟨w.heap.size, 1, none⟩ x1).setCell ⟨w.heap.size, 2, none⟩ x2) := by
  have hrl : r < w.heap.size := block_lt_of_cell h.c0
  have sz1 : w.heap.size + 2 ≤ w1.heap.size := by have := hgrow.size; simp at this; omega
  have k1 : ∀ k, k < w.heap.size → vL.ownBlock ≠ some k → w1.heap[k]? = w.heap[k]? := fun k hk hne =>
    (hgrow.block k (show k < (V.alloc Z).heap.size by simp; omega) (fun e => hne e.symm)).trans ((heap_alloc_old V Z (by omega)).trans (hVb.block k hk))
  have ob : (Value.slice (some ⟨gg, 0, none⟩) (ls.length + 1) cap).ownBlock = some gg := rfl
  have ggr : gg ≠ r := by
    rcases hat with e | e
    · exact fun e2 => h.rl (e2 ▸ e)
    · omega
  have ggw : gg ≠ w.heap.size := by
    rcases hat with e | e
    · have := (owns_in h.leases gg e).2; omega
    · omega
  have keep1 : Keep (fun i => i = r ∨ vL.ownBlock = some i) w w1 :=
    ⟨hgrow.os.trans hVb.os, hgrow.tape.trans hVb.tape, hgrow.output.trans hVb.output, by omega, fun k hk hne => k1 k hk (fun e => hne (Or.inr e))⟩
  have hsb : ∀ k, k ≠ r → k ≠ w.heap.size → ((((w1.setCell ⟨r, 1, none⟩ (.slice (some ⟨gg, 0, none⟩) (ls.length + 1) cap)).setCell ⟨w.heap.size, 0, none⟩ x0).setCell ⟨w.heap.size, 1, none⟩ x1).setCell ⟨w.heap.size, 2, none⟩ x2).heap[k]? = w1.heap[k]? := fun k h1 h2 => by
    rw [Below.heap_setCell _ _ _ _ h2, Below.heap_setCell _ _ _ _ h2, Below.heap_setCell _ _ _ _ h2, Below.heap_setCell _ _ _ _ h1]
  have cr : ∀ o, ((((w1.setCell ⟨r, 1, none⟩ (.slice (some ⟨gg, 0, none⟩) (ls.length + 1) cap)).setCell ⟨w.heap.size, 0, none⟩ x0).setCell ⟨w.heap.size, 1, none⟩ x1).setCell ⟨w.heap.size, 2, none⟩ x2).cell? ⟨r, o, none⟩ = (w1.setCell ⟨r, 1, none⟩ (.slice (some ⟨gg, 0, none⟩) (ls.length + 1) cap)).cell? ⟨r, o, none⟩ := fun o => by
    rw [World.cell?_setCell_other _ _ _ _ (by simp <;> omega), World.cell?_setCell_other _ _ _ _ (by simp <;> omega), World.cell?_setCell_other _ _ _ _ (by simp <;> omega)]
  have kr : w1.heap[r]? = w.heap[r]? := k1 r hrl h.rl
  have c1r : ∀ o, w1.cell? ⟨r, o, none⟩ = w.cell? ⟨r, o, none⟩ := fun o => World.cell?_of_block (w := w) kr
  have other : ∀ o, o ≠ 1 → (w1.setCell ⟨r, 1, none⟩ (.slice (some ⟨gg, 0, none⟩) (ls.length + 1) cap)).cell? ⟨r, o, none⟩ = w.cell? ⟨r, o, none⟩ := fun o ho => by
    rw [World.cell?_setCell_other _ _ _ _ (by simp <;> omega)]; exact c1r o
  refine ⟨⟨(cr 0).trans ((other 0 (by omega)).trans h.c0), (cr 1).trans (World.cell?_setCell_same _ _ _ ((c1r 1).trans h.c1)), (cr 2).trans ((other 2 (by omega)).trans h.c2), fun o => ?_, ?_, ?_, fun e => ggr (Option.some.inj (ob.symm.trans e)), h.rz, fun x hx => ?_⟩, ?_, (((keep1.setCell (fun _ => Or.inl rfl) _).setCell (fun h => absurd h (Nat.lt_irrefl _)) _).setCell (fun h => absurd h (Nat.lt_irrefl _)) _).setCell (fun h => absurd h (Nat.lt_irrefl _)) _⟩
  · rw [World.frozen?_setCell, World.frozen?_setCell, World.frozen?_setCell, World.frozen?_setCell]
    exact (World.frozen?_of_block (w := w) (a := ⟨r, o, none⟩) kr).trans (h.fz o)
  · rw [List.length_append, List.length_singleton, leaseCells_snoc]
    exact owns_stay hown1 (fun x hx => by
      obtain rfl : gg = x := Option.some.inj (ob.symm.trans hx)
      exact hsb gg ggr ggw)
  · refine owns_stay h.sizes (fun x hx => ?_)
    have hx2 := (owns_in h.sizes x hx).2
    rw [hsb x (fun e => h.rz (e ▸ hx)) (by omega)]
    exact k1 x hx2 (fun e => h.lz x e hx)
  · obtain rfl : gg = x := Option.some.inj (ob.symm.trans hx)
    rcases hat with e | e
    · exact h.lz gg e
    · intro e2; have := (owns_in h.sizes gg e2).2; omega
  · rcases hat with e | e
    · exact Or.inl (ob.trans e.symm)
    · exact Or.inr ⟨gg, ob, by omega⟩

set_option maxRecDepth 100000 in
set_option maxHeartbeats 4000000 in
theorem rlease_any {w : World} {B r span ns : Nat} {vL vS : Value} {ls : List L3} (h : ROffAt w B r span vL vS ls ns) (hg : Good (recs ls)) (node : Nat) (now : Int) (hn : node < 1024) (h1 : -9223372036854775808 ≤ now) (h2 : now ≤ 9223372036854775807) (hlen : ls.length ≤ 3000000000000) (s1 : 1 ≤ span) (s2 : span ≤ 1000000) (hB : B ≤ w.heap.size) :
    Calls Tryd.prog 58 #[.pointer (some ⟨r, 0, none⟩), .int .i64 node, .int .i64 now] w fun e w' =>
      (2199023255552 - (span : Int) < fromOf now (fenceOf (recs ls) node) ∧ e = .returned (.tuple #[.agg #[.int .i64 0, .int .i64 0, .int .i64 0], .int .i64 7]) ∧ Below w.heap.size w w') ∨
      ∃ fr : Nat, (fr : Int) = fromOf now (fenceOf (recs ls) node) ∧ fr + span ≤ 2199023255552 ∧ e = .returned (.tuple #[.agg #[.int .i64 node, .int .i64 fr, .int .i64 (fr + span)], .int .i64 0]) ∧
        ∃ vL', ROffAt w' B r span vL' vS (ls ++ [⟨node, fr, fr + span⟩]) ns ∧ (vL'.ownBlock = vL.ownBlock ∨ ∃ x, vL'.ownBlock = some x ∧ w.heap.size ≤ x) ∧ Keep (fun i => i = r ∨ vL.ownBlock = some i) w w' := by
  obtain ⟨i0, hi, hz0, hz1, hz2⟩ := info_parts lease3_info
  have c0 := h.c0
  have c1 := h.c1
  have hrl : r < w.heap.size := block_lt_of_cell h.c0
  obtain ⟨la, lcap, hvL⟩ := owns_slice h.leases
  rw [hvL] at c1
  have hh : Hid _ := h
  have hgd : Hid _ := hg
  have hv : Hid _ := hvL
  have hn0 : (0 : Int) ≤ (node : Int) := by omega
  have hn1 : (node : Int) < 1024 := by omega
  have hlI : (ls.length : Int) ≤ 3000000000000 := by omega
  clear h hg hvL
  have hst : Hid (∀ f : Int, (0 < now → f = now) → (¬ 0 < now → f = 0) → f = fromOf now (fenceOf (recs (ls.take 0)) node)) := fun f a b => by
    have e0 : fenceOf (recs (ls.take 0)) node = 0 := by simp [recs, fenceOf]
    rw [e0]
    unfold fromOf
    by_cases hp : 0 < now
    · rw [a hp]; omega
    · rw [b hp]; omega
  go_enter Tryd.func58, Tryd.ntmps58
  go_upto_if 19 with fail
  go_cut [8] from 19 (fun f wx => ∃ f0 : Int, f = .int .i64 f0 ∧ Hid (f0 = fromOf now (fenceOf (recs (ls.take 0)) node)) ∧ wx = w.alloc (.cells #[.int .i64 0, .int .i64 0, .int .i64 0] 44))
  case first =>
    by_cases hp : 0 < now
    · go_wp2_with fail
      go_meet
      exact ⟨now, rfl, hst.out now (fun _ => rfl) (fun e => absurd hp (by omega)), rfl⟩
    · go_wp2_with fail
      go_meet
      exact ⟨0, rfl, hst.out 0 (fun e => absurd e (by omega)) (fun _ => rfl), rfl⟩
  case rest =>
  obtain ⟨f0, rfl, hf0, rfl⟩ := hcut
  clear hst
  go_wp2_with fail
  go_loop [8, 9] (fun f i => ∃ k : Nat, k ≤ ls.length ∧ i = .int .i64 k ∧ ∃ fk : Int, f = .int .i64 fk ∧ Hid (fk = fromOf now (fenceOf (recs (ls.take k)) node))) (fun _ i => ls.length - (RowKit.intOf i).toNat)
  case atStart => exact ⟨0, by omega, rfl, f0, rfl, hf0⟩
  case round =>
    obtain ⟨k, hk, rfl, fk, rfl, hfk⟩ := hrel
    clear hf0
    by_cases hlt : k < ls.length
    · obtain ⟨g, cp, hv2⟩ := owns_some hh.out.leases (by omega)
      have hv2' := hv2
      rw [hv.out] at hv2'
      simp only [Value.slice.injEq, true_and] at hv2'
      obtain ⟨rfl, rfl⟩ := hv2'
      obtain ⟨d0, d1, d2⟩ := leaseCells_get ls k hlt
      have e0 := hh.out.leases.cells (g := g) (by rw [hv2]; rfl) _ _ d0
      have e2 := hh.out.leases.cells (g := g) (by rw [hv2]; rfl) _ _ d2
      rw [addr_add0] at e0 e2
      have hgl : g < w.heap.size := block_lt_of_cell e0
      have hfs : Hid _ := from_step hgd.out hlt node now
      clear d0 d1 d2 hv2
      generalize ls[k].node = nd at *
      generalize ls[k].to = tt at *
      by_cases hnd : nd = node
      · subst hnd
        by_cases hto : fk < (tt : Int)
        · have hx : Hid ((tt : Int) = fromOf now (fenceOf (recs (ls.take (k + 1))) nd)) := by
            show _ = _
            rw [hfs.out, if_pos ⟨rfl, by rw [← hfk.out]; exact hto⟩]
          go_wp2
          exact ⟨⟨k + 1, by omega, by go_num, _, rfl, hx⟩, by simp [RowKit.intOf]; omega⟩
        · have hx : Hid (fk = fromOf now (fenceOf (recs (ls.take (k + 1))) nd)) := by
            show _ = _
            rw [hfs.out, if_neg (fun e => hto (by rw [hfk.out]; exact e.2))]
            exact hfk.out
          go_wp2
          exact ⟨⟨k + 1, by omega, by go_num, _, rfl, hx⟩, by simp [RowKit.intOf]; omega⟩
      · have hx : Hid (fk = fromOf now (fenceOf (recs (ls.take (k + 1))) node)) := by
          show _ = _
          rw [hfs.out, if_neg (fun e => hnd e.1)]
          exact hfk.out
        have hb : ((nd : Int) == (node : Int)) = false := by rw [beq_eq_false_iff_ne]; omega
        go_wp2
        exact ⟨⟨k + 1, by omega, by go_num, _, rfl, hx⟩, by simp [RowKit.intOf]; omega⟩
    · have hkl : k = ls.length := by omega
      subst hkl
      have hfk' : Hid (fk = fromOf now (fenceOf (recs ls) node)) := by
        have := hfk.out
        rw [List.take_length] at this
        exact this
      clear hfk hlt hk
      have hfb : fenceOf (recs ls) node ≤ 2199023255552 := fence_le hgd.out node
      have hf0 : 0 ≤ fk := by rw [hfk'.out]; unfold fromOf; omega
      have hf1 : fk ≤ 9223372036854775807 := by rw [hfk'.out]; unfold fromOf; omega
      by_cases hsp : 2199023255552 - (span : Int) < fk
      · have hpost : Hid (2199023255552 - (span : Int) < fromOf now (fenceOf (recs ls) node)) := by show _ < _; rw [← hfk'.out]; exact hsp
        by_cases hs1 : 2199023255552 < fk
        · go_wp2
          refine bodyPost_ret (v := .tuple #[.agg #[.int .i64 0, .int .i64 0, .int .i64 0], .int .i64 7]) (by simp [results, Tryd.results58, go_sem]) rfl (Or.inl ⟨hpost.out, rfl, ?_⟩)
          exact (Below.refl _ w).alloc (Nat.le_refl _) _
        · have hs2 : 2199023255552 < fk + (span : Int) := by omega
          go_wp2
          refine bodyPost_ret (v := .tuple #[.agg #[.int .i64 0, .int .i64 0, .int .i64 0], .int .i64 7]) (by simp [results, Tryd.results58, go_sem]) rfl (Or.inl ⟨hpost.out, rfl, ?_⟩)
          exact (Below.refl _ w).alloc (Nat.le_refl _) _
      · obtain ⟨fr, hfr⟩ : ∃ fr : Nat, fk = (fr : Int) := ⟨fk.toNat, by omega⟩
        subst hfr
        have hto : (fr : Int) + (span : Int) ≤ 2199023255552 := by omega
        obtain ⟨V, hV⟩ : ∃ V, V = ((w.alloc (.cells #[.int .i64 0, .int .i64 0, .int .i64 0] 44)).alloc (.cells #[.int .i64 node, .int .i64 fr, .int .i64 ((fr : Int) + (span : Int))] 44)) := ⟨_, rfl⟩
        have hVb : Hid (Below w.heap.size w V) := by show Below _ _ _; rw [hV]; exact ((Below.refl _ w).alloc (Nat.le_refl _) _).alloc (by simp) _
        have hVs : V.heap.size = w.heap.size + 2 := by rw [hV]; simp
        have vr : Hid (∀ o, V.cell? ⟨r, o, none⟩ = w.cell? ⟨r, o, none⟩ ∧ V.frozen? ⟨r, o, none⟩ = w.frozen? ⟨r, o, none⟩) := fun o => ⟨hVb.out.cell (p := ⟨r, o, none⟩) hrl, hVb.out.frozen (p := ⟨r, o, none⟩) hrl⟩
        have v1 : V.cell? ⟨r, 1, none⟩ = some (.slice la ls.length lcap) := (vr.out 1).1.trans c1
        have vz : V.frozen? ⟨r, 1, none⟩ = false := (vr.out 1).2.trans (hh.out.fz 1)
        have hl2 : ∀ o, V.cell? ⟨w.heap.size + 1, o, none⟩ = (#[.int .i64 node, .int .i64 fr, .int .i64 ((fr : Int) + (span : Int))] : Array Value)[o]? := fun o => by
          have := (cell_alloc_new (w.alloc (.cells #[.int .i64 0, .int .i64 0, .int .i64 0] 44)) #[.int .i64 node, .int .i64 fr, .int .i64 ((fr : Int) + (span : Int))] 44 o).1
          rw [show (w.alloc (.cells #[.int .i64 0, .int .i64 0, .int .i64 0] 44)).heap.size = w.heap.size + 1 from by simp, ← hV] at this
          exact this
        have l20 := hl2 0
        have l21 := hl2 1
        have l22 := hl2 2
        simp only [List.getElem?_toArray, List.getElem?_cons_zero, List.getElem?_cons_succ] at l20 l21 l22
        have hr2 : Hid (∀ o, V.cell? ⟨w.heap.size, o, none⟩ = (#[.int .i64 0, .int .i64 0, .int .i64 0] : Array Value)[o]? ∧ V.frozen? ⟨w.heap.size, o, none⟩ = false) := fun o => by
          have hn := cell_alloc_new w #[.int .i64 0, .int .i64 0, .int .i64 0] 44 o
          have hbl : V.heap[w.heap.size]? = (w.alloc (.cells #[.int .i64 0, .int .i64 0, .int .i64 0] 44)).heap[w.heap.size]? := by rw [hV]; exact heap_alloc_old _ _ (by simp)
          exact ⟨(World.cell?_of_block (w := w.alloc (.cells #[.int .i64 0, .int .i64 0, .int .i64 0] 44)) hbl).trans hn.1, (World.frozen?_of_block (w := w.alloc (.cells #[.int .i64 0, .int .i64 0, .int .i64 0] 44)) (a := ⟨w.heap.size, o, none⟩) hbl).trans hn.2⟩
        have hown : Hid (V.ownsRow B 44 3 (.slice la ls.length lcap) ls.length (leaseCells ls)) := by
          have := owns_stay hh.out.leases (fun x hx => hVb.out.block x (owns_in hh.out.leases x hx).2)
          rw [hv.out] at this
          exact this
        have hlr : (Value.slice la ls.length lcap).ownBlock ≠ some r := by have := hh.out.rl; rw [hv.out] at this; exact this
        have hlw : (Value.slice la ls.length lcap).ownBlock ≠ some (w.heap.size + 1) := fun e => by have := hh.out.leases; rw [hv.out] at this; have := (owns_in this _ e).2; omega
        have hlz : Hid ((Value.slice la ls.length lcap).ownBlock ≠ some w.heap.size) := fun e => by have := hh.out.leases; rw [hv.out] at this; have := (owns_in this _ e).2; omega
        have hrV : r < V.heap.size := by omega
        have hwV : w.heap.size + 1 < V.heap.size := by omega
        have hBV : B ≤ V.heap.size := by omega
        have hnews : Hid (∀ j u, [Value.int .i64 node, .int .i64 fr, .int .i64 ((fr : Int) + (span : Int))][j]? = some u → ((V.alloc (.cells #[.int .i64 node, .int .i64 fr, .int .i64 ((fr : Int) + (span : Int))] 44)).drew).cell? ((⟨V.heap.size, 0, none⟩ : Addr).add j) = some u) := fun j u hj =>
          World.news_of_block (cs := #[.int .i64 node, .int .i64 fr, .int .i64 ((fr : Int) + (span : Int))]) (t := 44) (fr := (0, 0)) (heap_alloc_new V _) j u hj
        replace hVs : Hid _ := hVs
        go_wp2
        rw [← hV]
        replace hV : Hid _ := hV
        clear hl2
        go_region_law
          (refine step_append_lies _ (by rfl) _ _ _ (by rfl) B 44 i0 _ 3 24 Tryd.underlying101 hi hz0 hz1 hz2 rfl (by omega) (.slice la ls.length lcap) ls.length (leaseCells ls) (by rfl) ((hown.out.alloc _).drew) ⟨V.heap.size, 0, none⟩ 1 1 [.int .i64 node, .int .i64 fr, .int .i64 ((fr : Int) + (span : Int))] (by rfl) (by rfl) hnews.out (by simp [Value.oneCell']) (by omega) (by unfold maxLen; omega) (by omega) (by simp; omega) (V.heap.size + 1) (by simp) ?_
           intro gg cap w1 hown1 hgrow hat hlt
           have f1 : w1.frozen? ⟨r, 1, none⟩ = false := (hgrow.frozen_far ⟨r, 1, none⟩ (by show r < (V.alloc _).heap.size; simp; omega) (Ne.symm hlr)).trans ((World.frozen?_of_block (w := V) (a := ⟨r, 1, none⟩) (heap_alloc_old V _ hrV)).trans vz)
           have x1 : w1.cell? ⟨r, 1, none⟩ = some (.slice la ls.length lcap) := (hgrow.cell_far ⟨r, 1, none⟩ (by show r < (V.alloc _).heap.size; simp; omega) (Ne.symm hlr)).trans ((World.cell?_of_block (w := V) (a := ⟨r, 1, none⟩) (heap_alloc_old V _ hrV)).trans v1)
           have hk1 : Hid (∀ k, k < V.heap.size → (Value.slice la ls.length lcap).ownBlock ≠ some k → w1.heap[k]? = V.heap[k]?) := fun k hk hne => (hgrow.block k (by show k < (V.alloc _).heap.size; simp; omega) (fun e => hne e.symm)).trans (heap_alloc_old V _ hk)
           have m0 : w1.cell? ⟨w.heap.size + 1, 0, none⟩ = some (.int .i64 node) := (World.cell?_of_block (w := V) (hk1.out _ hwV hlw)).trans l20
           have m1 : w1.cell? ⟨w.heap.size + 1, 1, none⟩ = some (.int .i64 fr) := (World.cell?_of_block (w := V) (hk1.out _ hwV hlw)).trans l21
           have m2 : w1.cell? ⟨w.heap.size + 1, 2, none⟩ = some (.int .i64 ((fr : Int) + (span : Int))) := (World.cell?_of_block (w := V) (hk1.out _ hwV hlw)).trans l22
           have r0 : w1.cell? ⟨w.heap.size, 0, none⟩ = some (.int .i64 0) := (World.cell?_of_block (w := V) (hk1.out _ (Nat.lt_of_succ_lt hwV) hlz.out)).trans (hr2.out 0).1
           have r1 : w1.cell? ⟨w.heap.size, 1, none⟩ = some (.int .i64 0) := (World.cell?_of_block (w := V) (hk1.out _ (Nat.lt_of_succ_lt hwV) hlz.out)).trans (hr2.out 1).1
           have r2 : w1.cell? ⟨w.heap.size, 2, none⟩ = some (.int .i64 0) := (World.cell?_of_block (w := V) (hk1.out _ (Nat.lt_of_succ_lt hwV) hlz.out)).trans (hr2.out 2).1
           have rf : ∀ o, w1.frozen? ⟨w.heap.size, o, none⟩ = false := fun o => (World.frozen?_of_block (w := V) (a := ⟨w.heap.size, o, none⟩) (hk1.out _ (Nat.lt_of_succ_lt hwV) hlz.out)).trans (hr2.out o).2
           replace hown1 : Hid _ := hown1
           replace hgrow : Hid _ := hgrow
           replace hat : Hid _ := hat)
        all_goals
          go_wp2
          have hX : ∀ o, (w1.setCell ⟨r, 1, none⟩ (.slice (some ⟨gg, 0, none⟩) (ls.length + 1) cap)).cell? ⟨w.heap.size, o, none⟩ = w1.cell? ⟨w.heap.size, o, none⟩ := fun o => World.cell?_setCell_other _ _ _ _ (by simp <;> omega)
          obtain ⟨q0, q1, q2⟩ := set_three _ w.heap.size (.int .i64 node) (.int .i64 fr) (.int .i64 ((fr : Int) + (span : Int))) ((hX 0).trans r0) ((hX 1).trans r1) ((hX 2).trans r2)
          refine bodyPost_ret (v := .tuple #[.agg #[.int .i64 node, .int .i64 fr, .int .i64 ((fr : Int) + (span : Int))], .int .i64 0]) (by simp [results, Tryd.results58, go_sem, q0, q1, q2]) rfl (Or.inr ⟨fr, hfk'.out, by omega, rfl, ?_⟩)
          have hgr := hgrow.out
          rw [← hv.out] at hgr
          have hat' := hat.out
          rw [← hv.out] at hat'
          exact ⟨_, rlease_done ⟨node, fr, fr + span⟩ hh.out hVb.out hVs.out (by rw [Int.natCast_add]; exact hown1.out) hgr hat' _ _ _⟩
end Go.Proofs.YtdplffhieekfaaaDoor
namespace Go.Proofs.YtdplffhieekfaaaDoor
open Go.RowKit Go.Maps Go.Lib

theorem ROffAt.grewL {V w1 : World} {B r span ns gg cap : Nat} {vL vS : Value} {ls : List L3} {Z : Obj} (l : L3) (h : ROffAt V B r span vL vS ls ns)
    (hown1 : w1.ownsRow B 44 3 (.slice (some ⟨gg, 0, none⟩) (ls.length + 1) cap) (ls.length + 1) (leaseCells ls ++ [.int .i64 l.node, .int .i64 l.frm, .int .i64 l.to])) (hgrow : ((V.alloc Z).drew).grownBy w1 vL.ownBlock) (hat : vL.ownBlock = some gg ∨ gg = V.heap.size + 1) :
    ROffAt (w1.setCell ⟨r, 1, none⟩ (.slice (some ⟨gg, 0, none⟩) (ls.length + 1) cap)) B r span (.slice (some ⟨gg, 0, none⟩) (ls.length + 1) cap) vS (ls ++ [l]) ns ∧
      Keep (fun i => i = r ∨ vL.ownBlock = some i) V (w1.setCell ⟨r, 1, none⟩ (.slice (some ⟨gg, 0, none⟩) (ls.length + 1) cap)) := by
  have hrl : r < V.heap.size := block_lt_of_cell h.c0
  have sz1 : V.heap.size + 1 ≤ w1.heap.size := by have := hgrow.size; simp at this; omega
  have k1 : ∀ k, k < V.heap.size → vL.ownBlock ≠ some k → w1.heap[k]? = V.heap[k]? := fun k hk hne =>
    (hgrow.block k (show k < (V.alloc Z).heap.size by simp; omega) (fun e => hne e.symm)).trans (heap_alloc_old V Z (by omega))
  have ob : (Value.slice (some ⟨gg, 0, none⟩) (ls.length + 1) cap).ownBlock = some gg := rfl
  have ggr : gg ≠ r := by
    rcases hat with e | e
    · exact fun e2 => h.rl (e2 ▸ e)
    · omega
  have keep1 : Keep (fun i => i = r ∨ vL.ownBlock = some i) V w1 :=
    ⟨hgrow.os, hgrow.tape, hgrow.output, by omega, fun k hk hne => k1 k hk (fun e => hne (Or.inr e))⟩
  have hsb : ∀ k, k ≠ r → (w1.setCell ⟨r, 1, none⟩ (.slice (some ⟨gg, 0, none⟩) (ls.length + 1) cap)).heap[k]? = w1.heap[k]? := fun k h1 => Below.heap_setCell _ _ _ _ h1
  have kr : w1.heap[r]? = V.heap[r]? := k1 r hrl h.rl
  have c1r : ∀ o, w1.cell? ⟨r, o, none⟩ = V.cell? ⟨r, o, none⟩ := fun o => World.cell?_of_block (w := V) kr
  have other : ∀ o, o ≠ 1 → (w1.setCell ⟨r, 1, none⟩ (.slice (some ⟨gg, 0, none⟩) (ls.length + 1) cap)).cell? ⟨r, o, none⟩ = V.cell? ⟨r, o, none⟩ := fun o ho => by
    rw [World.cell?_setCell_other _ _ _ _ (by simp <;> omega)]; exact c1r o
  refine ⟨⟨(other 0 (by omega)).trans h.c0, World.cell?_setCell_same _ _ _ ((c1r 1).trans h.c1), (other 2 (by omega)).trans h.c2, fun o => ?_, ?_, ?_, fun e => ggr (Option.some.inj (ob.symm.trans e)), h.rz, fun x hx => ?_⟩, keep1.setCell (fun _ => Or.inl rfl) _⟩
  · rw [World.frozen?_setCell]
    exact (World.frozen?_of_block (w := V) (a := ⟨r, o, none⟩) kr).trans (h.fz o)
  · rw [List.length_append, List.length_singleton, leaseCells_snoc]
    exact owns_stay hown1 (fun x hx => by
      obtain rfl : gg = x := Option.some.inj (ob.symm.trans hx)
      exact hsb gg ggr)
  · refine owns_stay h.sizes (fun x hx => ?_)
    have hx2 := (owns_in h.sizes x hx).2
    rw [hsb x (fun e => h.rz (e ▸ hx))]
    exact k1 x hx2 (fun e => h.lz x e hx)
  · obtain rfl : gg = x := Option.some.inj (ob.symm.trans hx)
    rcases hat with e | e
    · exact h.lz gg e
    · intro e2; have := (owns_in h.sizes gg e2).2; omega

theorem ROffAt.grewS {V w1 : World} {B r span ns gg cap : Nat} {vL vS : Value} {ls : List L3} {Z : Obj} (h : ROffAt V B r span vL vS ls ns)
    (hown1 : w1.ownsRow B 3 1 (.slice (some ⟨gg, 0, none⟩) (ns + 1) cap) (ns + 1) (sizeCells ns ++ [.int .i64 ((13 * (ns + 1) : Nat) : Int)])) (hgrow : ((V.alloc Z).drew).grownBy w1 vS.ownBlock) (hat : vS.ownBlock = some gg ∨ gg = V.heap.size + 1) :
    ROffAt (w1.setCell ⟨r, 2, none⟩ (.slice (some ⟨gg, 0, none⟩) (ns + 1) cap)) B r span vL (.slice (some ⟨gg, 0, none⟩) (ns + 1) cap) ls (ns + 1) ∧
      Keep (fun i => i = r ∨ vS.ownBlock = some i) V (w1.setCell ⟨r, 2, none⟩ (.slice (some ⟨gg, 0, none⟩) (ns + 1) cap)) := by
  have hrl : r < V.heap.size := block_lt_of_cell h.c0
  have sz1 : V.heap.size + 1 ≤ w1.heap.size := by have := hgrow.size; simp at this; omega
  have k1 : ∀ k, k < V.heap.size → vS.ownBlock ≠ some k → w1.heap[k]? = V.heap[k]? := fun k hk hne =>
    (hgrow.block k (show k < (V.alloc Z).heap.size by simp; omega) (fun e => hne e.symm)).trans (heap_alloc_old V Z (by omega))
  have ob : (Value.slice (some ⟨gg, 0, none⟩) (ns + 1) cap).ownBlock = some gg := rfl
  have ggr : gg ≠ r := by
    rcases hat with e | e
    · exact fun e2 => h.rz (e2 ▸ e)
    · omega
  have keep1 : Keep (fun i => i = r ∨ vS.ownBlock = some i) V w1 :=
    ⟨hgrow.os, hgrow.tape, hgrow.output, by omega, fun k hk hne => k1 k hk (fun e => hne (Or.inr e))⟩
  have hsb : ∀ k, k ≠ r → (w1.setCell ⟨r, 2, none⟩ (.slice (some ⟨gg, 0, none⟩) (ns + 1) cap)).heap[k]? = w1.heap[k]? := fun k h1 => Below.heap_setCell _ _ _ _ h1
  have kr : w1.heap[r]? = V.heap[r]? := k1 r hrl h.rz
  have c1r : ∀ o, w1.cell? ⟨r, o, none⟩ = V.cell? ⟨r, o, none⟩ := fun o => World.cell?_of_block (w := V) kr
  have other : ∀ o, o ≠ 2 → (w1.setCell ⟨r, 2, none⟩ (.slice (some ⟨gg, 0, none⟩) (ns + 1) cap)).cell? ⟨r, o, none⟩ = V.cell? ⟨r, o, none⟩ := fun o ho => by
    rw [World.cell?_setCell_other _ _ _ _ (by simp <;> omega)]; exact c1r o
  refine ⟨⟨(other 0 (by omega)).trans h.c0, (other 1 (by omega)).trans h.c1, World.cell?_setCell_same _ _ _ ((c1r 2).trans h.c2), fun o => ?_, ?_, ?_, h.rl, fun e => ggr (Option.some.inj (ob.symm.trans e)), fun x hx => ?_⟩, keep1.setCell (fun _ => Or.inl rfl) _⟩
  · rw [World.frozen?_setCell]
    exact (World.frozen?_of_block (w := V) (a := ⟨r, o, none⟩) kr).trans (h.fz o)
  · refine owns_stay h.leases (fun x hx => ?_)
    have hx2 := (owns_in h.leases x hx).2
    rw [hsb x (fun e => h.rl (e ▸ hx))]
    exact k1 x hx2 (fun e => h.lz x hx e)
  · rw [sizeCells_succ]
    exact owns_stay hown1 (fun x hx => by
      obtain rfl : gg = x := Option.some.inj (ob.symm.trans hx)
      exact hsb gg ggr)
  · intro e
    obtain rfl : gg = x := Option.some.inj (ob.symm.trans e)
    rcases hat with e2 | e2
    · exact h.lz gg hx e2
    · have := (owns_in h.leases gg hx).2; omega
end Go.Proofs.YtdplffhieekfaaaDoor
