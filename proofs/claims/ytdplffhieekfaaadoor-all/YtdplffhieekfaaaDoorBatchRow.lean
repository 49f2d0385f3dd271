/-
  Batch, with the row that it gives as a whole.
  Conditions: the desk's cells are known.
-/
import Derived.Test.YtdplffhieekfaaaDoorKeepsWalk
namespace Go.Proofs.YtdplffhieekfaaaDoor
open Go.RowKit

theorem heap_alloc_at (w : World) (o : Obj) : (w.alloc o).heap[w.heap.size]? = some o := by show (w.heap.push o)[w.heap.size]? = some o; simp

/-- One more number is taken. -/
theorem BatchAt.takeB {w W : World} {b k : Nat} {c : Option Nat} {s : Dk} {now : Int} {cnt i : Nat} (h : BatchAt w W b k c s now cnt i) (ok : s.Ok) (hb : b < w.heap.size) (hk : w.heap.size ≤ k) (hi : i < cnt) (hl : timeAt s now (cnt - 1) < lidOf s now) (n : Nat) :
    Calls Tryd.prog 31 #[.pointer (some ⟨b, 0, none⟩), .int .i64 (timeAt s now i)] (W.drewN n) fun e W' => e = .returned (.int .u64 (numAt s now i)) ∧ (∃ v, W'.cell? ⟨k, i, none⟩ = some v) ∧ W'.frozen? ⟨k, i, none⟩ = false ∧ Hid (W'.heap[k]? = W.heap[k]?) ∧
      Hid (BatchAt w (W'.setCell ⟨k, i, none⟩ (.int .u64 (numAt s now i))) b k c s now cnt (i + 1)) := by
  obtain ⟨⟨c', hc', hd⟩, keep, lt, made, room, fz⟩ := h
  obtain ⟨r1, r2⟩ := run_at ok now i
  have hm := timeAt_mono s now (show i ≤ cnt - 1 by omega)
  have hq := seqOf_lt hd.ok now
  have hg := timeOf_ge (s.run now i) now
  have hok := hd.ok
  rw [r2] at hq
  rw [r1] at hg
  have h1 := ok.t1
  have h2 := hok.f0
  have hlid : lidOf s now ≤ s.to := by unfold lidOf; omega
  have hcell0 : ∃ v, W.cell? ⟨b, 0, none⟩ = some v := by obtain ⟨_, made, _, hcl, _⟩ := hd; exact ⟨_, hcl.c0⟩
  have hnk : c' ≠ some k := by
    rintro rfl
    obtain ⟨_, made, _, hcl, buf, sn, rc, hch, _⟩ := hd
    obtain ⟨v, hv⟩ := room i hi
    exact cells_not_chan hv hch rfl
  have hseq : seqOf (s.run now i) (timeAt s now i) = seqAt s now i := by rw [← r1]; exact r2
  have hnode := (run_same s now i).1
  refine ((hd.drewN n).take (timeAt s now i) (by omega) (by omega) (by rw [hseq]; omega)).mono ?_
  rintro e W' ⟨rfl, c'', hc'', hd', hkp⟩
  have hkb : k ≠ b := by omega
  have hS : ¬ (k = b ∨ c' = some k) := by rintro (h | h); exact hkb h; exact hnk h
  have hcell : ∀ j, W'.cell? ⟨k, j, none⟩ = W.cell? ⟨k, j, none⟩ := fun j => hkp.cell (p := ⟨k, j, none⟩) lt hS
  have hfro : ∀ j, W'.frozen? ⟨k, j, none⟩ = W.frozen? ⟨k, j, none⟩ := fun j => hkp.frozen (p := ⟨k, j, none⟩) lt hS
  have hnum : numOf (timeAt s now i) (s.run now i).node (seqOf (s.run now i) (timeAt s now i)) = numAt s now i := by rw [hnode, hseq]; rfl
  have hkW' : k < W'.heap.size := Nat.lt_of_lt_of_le lt hkp.size
  obtain ⟨v, hv⟩ := room i hi
  have hvW : W'.cell? ⟨k, i, none⟩ = some v := (hcell i).trans hv
  refine ⟨by rw [hnum], ⟨v, hvW⟩, (hfro i).trans (fz i), hkp.block k lt hS, ⟨c'', ?_, ?_⟩, ?_, ?_, ?_, ?_, ?_⟩
  · rcases hc'' with rfl | ⟨j, hj, rfl⟩
    · exact hc'
    · exact .inr ⟨j, Nat.le_trans keep.size hj, rfl⟩
  · have e1 : s.run now (i + 1) = { s.run now i with time := timeAt s now i, nxt := seqOf (s.run now i) (timeAt s now i) + 1 } := by
      show (s.run now i).stepT now = _
      unfold Dk.stepT
      rw [r1]
    rw [e1]
    refine hd'.keep (S := fun x => x = k) ((Keep.refl (fun x => x = k) W').setCell (p := ⟨k, i, none⟩) (fun _ => rfl) _) (fun h => hkb h.symm) ?_
    intro j hj hjk
    subst hjk
    obtain ⟨_, made, _, hcl, hrd⟩ := hd'
    rw [hj] at hrd
    obtain ⟨buf, sn, rc, hch, _⟩ := hrd
    exact cells_not_chan hvW hch rfl
  · have k1 : Keep (fun x => x = b ∨ c = some x) w W' := (keep.drewN n).trans' hkp (fun x hx hs => by
      rcases hs with hs | hs
      · exact .inl hs
      · rcases hc' with rfl | ⟨j, hj, hj2⟩
        · exact .inr hs
        · rw [hj2] at hs; cases hs; omega)
    exact k1.setCell (p := ⟨k, i, none⟩) (fun h => by have : k < w.heap.size := h; omega) _
  · simpa [World.setCell] using hkW'
  · intro j hj
    by_cases hji : j = i
    · subst hji; exact World.cell?_setCell_same _ _ _ hvW
    · rw [World.cell?_setCell_other _ ⟨k, i, none⟩ ⟨k, j, none⟩ _ (by simp)]
      exact (hcell j).trans (made j (by omega))
  · intro j hj
    by_cases hji : j = i
    · subst hji; exact ⟨_, World.cell?_setCell_same _ _ _ hvW⟩
    · obtain ⟨u, hu⟩ := room j hj
      exact ⟨u, by rw [World.cell?_setCell_other _ ⟨k, i, none⟩ ⟨k, j, none⟩ _ (by simp)]; exact (hcell j).trans hu⟩
  · intro j
    rw [World.frozen?_setCell]; exact (hfro j).trans (fz j)

/-- Between two rounds of Batch, with the row's block. -/
structure BatchOb (w W : World) (b k : Nat) (c : Option Nat) (s : Dk) (now : Int) (cnt i : Nat) : Prop where
  at' : BatchAt w W b k c s now cnt i
  obj : ∃ cur, W.heap[k]? = some (.cells cur 25) ∧ cur.size = cnt

theorem BatchOb.takeO {w W : World} {b k : Nat} {c : Option Nat} {s : Dk} {now : Int} {cnt i : Nat} (h : BatchOb w W b k c s now cnt i) (ok : s.Ok) (hb : b < w.heap.size) (hk : w.heap.size ≤ k) (hi : i < cnt) (hl : timeAt s now (cnt - 1) < lidOf s now) (n : Nat) :
    Calls Tryd.prog 31 #[.pointer (some ⟨b, 0, none⟩), .int .i64 (timeAt s now i)] (W.drewN n) fun e W' => e = .returned (.int .u64 (numAt s now i)) ∧ (∃ v, W'.cell? ⟨k, i, none⟩ = some v) ∧ W'.frozen? ⟨k, i, none⟩ = false ∧
      Hid (BatchOb w (W'.setCell ⟨k, i, none⟩ (.int .u64 (numAt s now i))) b k c s now cnt (i + 1)) := by
  refine (h.at'.takeB ok hb hk hi hl n).mono ?_
  rintro e W' ⟨rfl, h1, h2, h3, h4⟩
  obtain ⟨cur, o1, o2⟩ := h.obj
  refine ⟨rfl, h1, h2, h4.out, cur.setIfInBounds i (.int .u64 (numAt s now i)), ?_, by simpa using o2⟩
  have e3 : W'.heap[k]? = some (.cells cur 25) := h3.out.trans o1
  simp only [World.setCell]
  rw [Array.getElem?_modify]
  simp [e3]

theorem gave_row {W : World} {k cnt base : Nat} {s : Dk} {now : Int} {cur : Array Value} (h1 : W.heap[k]? = some (.cells cur 25)) (h2 : cur.size = cnt) (hc : cnt ≤ 10000) (hk : base ≤ k) (hm : ∀ j, j < cnt → W.cell? ⟨k, j, none⟩ = some (.int .u64 (numAt s now j))) :
    W.ownsRow base 25 1 (.slice (some ⟨k, 0, none⟩) cnt cnt) cnt (numCells s now cnt) := by
  have hlen : (numCells s now cnt).length = cnt := by simp [numCells]
  refine ⟨by omega, Or.inr ⟨k, cnt, cur, rfl, hk, h1, Nat.le_refl _, by unfold maxLen; omega, by omega, ?_⟩⟩
  rw [Nat.mul_one, List.take_of_length_le (by simp [h2])]
  apply List.ext_getElem?
  intro j
  by_cases hj : j < cnt
  · have e1 := hm j hj
    simp only [World.cell?, h1] at e1
    simp at e1
    rw [Array.getElem?_toList, e1]
    simp [numCells, hj]
  · rw [List.getElem?_eq_none (by simp [h2]; omega), List.getElem?_eq_none (by omega)]

/-- What Batch owes where it gives. -/
def BatchGave (w : World) (b : Nat) (c : Option Nat) (s : Dk) (now : Int) (cnt : Nat) (e : Ending) (w' : World) : Prop :=
  ∃ k, e = .returned (.tuple #[.slice (some ⟨k, 0, none⟩) cnt cnt, .int .i64 0]) ∧ w'.ownsRow w.heap.size 25 1 (.slice (some ⟨k, 0, none⟩) cnt cnt) cnt (numCells s now cnt) ∧
    (∃ c', (c' = c ∨ ∃ j, w.heap.size ≤ j ∧ c' = some j) ∧ DeskAt w' b c' (s.runG now cnt)) ∧ Keep (fun x => x = b ∨ c = some x) w w'

set_option maxRecDepth 100000 in
set_option maxHeartbeats 1000000 in
theorem DeskAt.batch_row {w : World} {b : Nat} {c : Option Nat} {s : Dk} (hd : DeskAt w b c s) (now : Int) (cnt : Nat) (hn0 : -9223372036854775808 ≤ now) (c0 : 1 ≤ cnt) (c1 : cnt ≤ 10000) (hl : timeAt s now (cnt - 1) < lidOf s now) (g0 : 0 ≤ s.given) (g1 : s.given + cnt ≤ 9223372036854775807) :
    Calls Tryd.prog 48 #[.pointer (some ⟨b, 0, none⟩), .int .i64 now, .int .i64 cnt] w (BatchGave w b c s now cnt) := by
  have hr := hd.batchRefusal now cnt hn0 c0 c1
  rw [show batchErr s now cnt = 0 by unfold batchErr; rw [if_pos hl]] at hr
  have hmk := run_make_row' (P := Tryd.prog) 40 25 (.int .u64 0) 8 Tryd.underlying40 rowElem rfl .i64 .i64 cnt (by omega) (by omega)
  have hstart := fun n => (⟨BatchAt.start hd now cnt n, _, heap_alloc_at (w.drewN n) _, size_madeCells _ _⟩ : BatchOb w ((w.drewN n).alloc (.cells (madeCells #[.int .u64 0] cnt) 25)) b w.heap.size c s now cnt 0)
  have hbs : b < w.heap.size := by obtain ⟨_, made, _, hcl, _⟩ := hd; exact block_lt_of_cell hcl.c0
  have hok := hd.ok
  have hst : Hid _ := hstart
  clear hstart hd
  have hc1 : decide ((cnt : Int) < 1) = false := by simp; omega
  have hc2 : decide ((10000 : Int) < cnt) = false := by simp; omega
  go_enter Tryd.func48, Tryd.ntmps48
  go_wp2_with (go_at_call 78; refine hr.mono ?_; rintro e w' ⟨rfl, m, rfl⟩)
  go_loopw [28] (fun i W => ∃ j : Nat, j ≤ cnt ∧ i = .int .i64 j ∧ Hid (BatchOb w W b w.heap.size c s now cnt j)) (fun i _ => cnt - (intOf i).toNat)
  case atStart => exact ⟨0, Nat.zero_le _, rfl, hst.out m⟩
  case round =>
    obtain ⟨j, hj, rfl, hB⟩ := hrel
    clear hst hmk hr
    by_cases hlt : j < cnt
    · have hnt : ∃ c', DeskAt wr b c' (s.run now j) := by obtain ⟨⟨c', _, h⟩, _⟩ := hB.out.at'; exact ⟨c', h⟩
      obtain ⟨c', hdj⟩ := hnt
      have ht := hdj.ntime now
      rw [(run_at hok now j).1] at ht
      have htk := fun n => hB.out.takeO hok hbs (Nat.le_refl _) hlt hl n
      clear hdj hB
      generalize timeAt s now j = tj at *
      generalize numAt s now j = nv at *
      have hl' : Hid _ := hl
      clear hl
      go_wp2_with (first | (go_at_call 29; refine ht.mono ?_; rintro e w' ⟨rfl, m2, rfl⟩) | (go_at_call 31; refine (htk _).mono ?_; rintro e W' ⟨rfl, ⟨v, hv⟩, hfz, hB2⟩))
      exact ⟨⟨j + 1, by omega, by go_num, hB2⟩, by simp [intOf]; omega⟩
    · have hjc : j = cnt := by omega
      subst hjc
      obtain ⟨⟨⟨c', hc', hd⟩, keep, lt, made, room, fz⟩, cur, ob1, ob2⟩ := hB.out
      have hgiv := (run_same s now j).2.2.2.2
      have hcl : wr.cell? ⟨b, 7, none⟩ = some (.int .i64 s.given) ∧ wr.frozen? ⟨b, 7, none⟩ = false := by
        obtain ⟨_, md, _, hcl, _⟩ := hd
        exact ⟨by rw [hcl.c7, hgiv], hcl.fz 7⟩
      have hfin : Hid (BatchGave w b c s now j (.returned (.tuple #[.slice (some ⟨w.heap.size, 0, none⟩) j j, .int .i64 0])) (wr.setCell ⟨b, 7, none⟩ (.int .i64 (s.given + j)))) := by
        have hkb : w.heap.size ≠ b := by omega
        refine ⟨w.heap.size, rfl, ?_, ⟨c', hc', ?_⟩, keep.setCell (p := ⟨b, 7, none⟩) (fun _ => .inl rfl) _⟩
        · exact gave_row ((Below.heap_setCell _ _ _ _ hkb).trans ob1) ob2 (by omega) (Nat.le_refl _) (fun i hi => by rw [World.cell?_setCell_other _ ⟨b, 7, none⟩ ⟨w.heap.size, i, none⟩ _ (by simp)]; exact made i hi)
        · exact hd.count (s.given + j)
      obtain ⟨hc7, hz7⟩ := hcl
      clear hd keep lt made room fz hB hgiv hc' ob1 ob2
      go_wp2_with (go_at_call 32; refine (add_any _ _ _ _ _ hc7 hz7 g0 (by omega) (by omega)).mono ?_; rintro e w2 ⟨rfl, rfl⟩)
      go_ret2
      exact hfin.out

end Go.Proofs.YtdplffhieekfaaaDoor
