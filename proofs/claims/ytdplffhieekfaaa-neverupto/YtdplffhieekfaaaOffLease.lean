/-
  An office's Journal and Lease.
-/
import Derived.Test.YtdplffhieekfaaaOffice
namespace Go.Proofs.Ytdplffhieekfaaa
open Go.RowKit Go.Maps Go.Lib

theorem step_append_bytes {ops : Array Oper} {o : Oper} {a : Act} {w : World} {K : Act → World → Prop} {Q : Exit → Act → World → Prop} {E : Prop}
    (hg : o.guard = none) (s x : Operand) (hop : o.op = Op.call { callee := Callee.builtin Builtin.append, args := #[s, x], argTypes := #[88, 9] })
    {g cap : Nat} {l t : List UInt8} (hb : BytesAt w g cap l) (hs : a.eval s = .slice (some ⟨g, 0, none⟩) l.length cap) (hx : a.eval x = .string (btext t)) (hl : l.length + t.length ≤ 140737488355328)
    (hK : ∀ g' cap' w', BytesAt w' g' cap' (l ++ t) → w.grownBy w' (some g) → (g' = g ∨ g' = w.heap.size) → K (a.put o.dst (.slice (some ⟨g', 0, none⟩) (l ++ t).length cap')) w') :
    if Region.wanted o (yielded ops a.tmps) = true then Oper.wp Try.prog o a w K Q else E := by
  have hw : Region.wanted o (yielded ops a.tmps) = true := by simp [Region.wanted, hg]
  rw [if_pos hw]
  obtain ⟨g', cap', w', hr, h1, h2, h3⟩ := hb.append t o.type hl
  unfold Oper.wp
  simp only [execOp, hop, resolve, invoke, builtin, List.map_toArray, List.map_cons, List.map_nil, hs, hx, hr, Sem.run_bind, Sem.run_pure, Result.andThen_ok]
  exact hK g' cap' w' h1 h2 h3

set_option maxRecDepth 100000 in
theorem journal_any {w : World} {b m g cap span : Nat} {rs : List (Nat × Nat)} (h : OfficeAt w b m g cap span rs) :
    Calls Try.prog 21 #[.pointer (some ⟨b, 0, none⟩)] w fun e w' => e = .returned (.string (btext (jtext rs))) ∧ w' = w := by
  have c2 := h.c2
  have ht := h.bytes.text
  clear h
  generalize jtext rs = l at *
  go_enter Try.func21, Try.ntmps21
  go_wp2
  go_ret
  exact ⟨rfl, rfl⟩

/-- Where a window begins. -/
def fromOf (now : Int) (fence : Nat) : Int := max (max now 0) fence

set_option maxRecDepth 100000 in
set_option maxHeartbeats 1000000 in
theorem lease_spent {w : World} {b m g cap span : Nat} {rs : List (Nat × Nat)} (h : OfficeAt w b m g cap span rs) (node : Nat) (now : Int) (hn : node < 1024) (h1 : -9223372036854775808 ≤ now) (h2 : now ≤ 9223372036854775807)
    (hs : 2199023255552 - (span : Int) < fromOf now (fenceOf rs node)) :
    Calls Try.prog 20 #[.pointer (some ⟨b, 0, none⟩), .int .i64 node, .int .i64 now] w fun e w' => e = .returned (.tuple #[.agg #[.int .i64 0, .int .i64 0, .int .i64 0], .int .i64 7]) ∧ Below w.heap.size w w' := by
  have c0 := h.c0
  have c1 := h.c1
  have hlt := h.lt
  have hlk := ((h.fences.on (w' := w.alloc (.cells #[.int .i64 0, .int .i64 0, .int .i64 0] 39)) (heap_alloc_old _ _ hlt.2.1)).look node hn 0)
  have s1 := h.s1
  have s2 := h.s2
  rw [World.drewN_zero] at hlk
  have hfl : (fenceOf rs node : Int) ≤ 2199023255552 := by have := fence_le h.good node; omega
  have hf0 : (0 : Int) ≤ (fenceOf rs node : Int) := by omega
  have hlt0 := hlt.1
  unfold fromOf at hs
  clear h hlt
  generalize (fenceOf rs node : Int) = F at *
  go_enter Try.func20, Try.ntmps20
  go_wp2
  all_goals
    refine bodyPost_ret (v := .tuple #[.agg #[.int .i64 0, .int .i64 0, .int .i64 0], .int .i64 7]) (by simp [results, Try.results20, go_sem]) rfl ⟨rfl, ?_⟩
    exact (Below.refl _ w).alloc (Nat.le_refl _) _

/-- What Lease leaves: one record more. -/
structure Leased (w w' : World) (b m g span : Nat) (rs : List (Nat × Nat)) (node fr : Nat) : Prop where
  keep : Keep (fun k => k = b ∨ k = m ∨ k = g) w w'
  off : ∃ g' cap', (g' = g ∨ w.heap.size ≤ g') ∧ OfficeAt w' b m g' cap' span (rs ++ [(node, fr + span)])

theorem set_three (X : World) (B : Nat) (x0 x1 x2 : Value) {y0 y1 y2 : Value} (h0 : X.cell? ⟨B, 0, none⟩ = some y0) (h1 : X.cell? ⟨B, 1, none⟩ = some y1) (h2 : X.cell? ⟨B, 2, none⟩ = some y2) :
    (X.setCell ⟨B, 0, none⟩ x0).cell? ⟨B, 0, none⟩ = some x0 ∧ ((X.setCell ⟨B, 0, none⟩ x0).setCell ⟨B, 1, none⟩ x1).cell? ⟨B, 1, none⟩ = some x1 ∧
    (((X.setCell ⟨B, 0, none⟩ x0).setCell ⟨B, 1, none⟩ x1).setCell ⟨B, 2, none⟩ x2).cell? ⟨B, 2, none⟩ = some x2 := by
  have e1 : (X.setCell ⟨B, 0, none⟩ x0).cell? ⟨B, 1, none⟩ = some y1 := by rw [World.cell?_setCell_other _ _ _ _ (by simp)]; exact h1
  have e2 : ((X.setCell ⟨B, 0, none⟩ x0).setCell ⟨B, 1, none⟩ x1).cell? ⟨B, 2, none⟩ = some y2 := by
    rw [World.cell?_setCell_other _ _ _ _ (by simp), World.cell?_setCell_other _ _ _ _ (by simp)]; exact h2
  exact ⟨World.cell?_setCell_same _ _ _ h0, World.cell?_setCell_same _ _ _ e1, World.cell?_setCell_same _ _ _ e2⟩

theorem lease_done {w W w2 w3 w4 : World} {b m g cap span : Nat} {rs : List (Nat × Nat)} {node fr g4 cap4 : Nat} (hold : OfficeAt w b m g cap span rs) (hn : node < 1024) (hs : fr + span ≤ 2199023255552) (hF : fenceOf rs node ≤ fr)
    (hWb : Below w.heap.size w W) (hWs : W.heap.size = w.heap.size + 2) (hg2 : W.drew.grownBy w2 (some m)) (hm2 : FenceMap w2 m (rs.length + 1) (fun k => if node = k then fr + span else fenceOf rs k))
    (hb3 : Below w2.drew.heap.size w2.drew w3) (hb4 : BytesAt w4 g4 cap4 (jtext rs ++ recText node (fr + span))) (hg4 : w3.grownBy w4 (some g)) (hor : g4 = g ∨ g4 = w3.heap.size) (x0 x1 x2 : Value) :
    Leased w ((((w4.setCell ⟨b, 2, none⟩ (.slice (some ⟨g4, 0, none⟩) ((jtext rs).length + (recText node (fr + span)).length) cap4)).setCell ⟨w.heap.size, 0, none⟩ x0).setCell ⟨w.heap.size, 1, none⟩ x1).setCell ⟨w.heap.size, 2, none⟩ x2) b m g span rs node fr := by
  have hl := hold.lt
  have hbm := hold.bm
  have hbg := hold.bg
  have hgm := hold.gm
  have sz2 : w.heap.size + 2 ≤ w2.heap.size := by have := hg2.size; simp at this; omega
  have sz3 : w2.heap.size ≤ w3.heap.size := hb3.size
  have sz4 : w3.heap.size ≤ w4.heap.size := hg4.size
  have k4 : ∀ k, k < w.heap.size → k ≠ m → k ≠ g → w4.heap[k]? = w.heap[k]? := fun k hk h1 h2 =>
    (hg4.block k (by omega) (by simpa using h2)).trans ((hb3.block k (show k < w2.heap.size by omega)).trans ((hg2.block k (show k < W.heap.size by omega) (by simpa using h1)).trans (hWb.block k hk)))
  have hsb : ∀ (X : World) (p : Addr) (u : Value) (k : Nat), k ≠ p.block → (X.setCell p u).heap[k]? = X.heap[k]? := fun X p u k hk => Below.heap_setCell _ _ _ _ hk
  have keep4 : Keep (fun k => k = b ∨ k = m ∨ k = g) w w4 :=
    ⟨hg4.os.trans (hb3.os.trans (hg2.os.trans hWb.os)), hg4.tape.trans (hb3.tape.trans (hg2.tape.trans hWb.tape)), hg4.output.trans (hb3.output.trans (hg2.output.trans hWb.output)), by omega, fun k hk hne => k4 k hk (fun e => hne (by simp [e])) (fun e => hne (by simp [e]))⟩
  refine ⟨(((keep4.setCell (fun _ => Or.inl rfl) _).setCell (fun h => absurd h (Nat.lt_irrefl _)) _).setCell (fun h => absurd h (Nat.lt_irrefl _)) _).setCell (fun h => absurd h (Nat.lt_irrefl _)) _, g4, cap4, ?_, ?_⟩
  · rcases hor with h | h
    · exact Or.inl h
    · exact Or.inr (by omega)
  · have hbb : w4.heap[b]? = w.heap[b]? := k4 b hl.1 hbm hbg
    have cc : ∀ o, w4.cell? ⟨b, o, none⟩ = w.cell? ⟨b, o, none⟩ := fun o => World.cell?_of_block (w := w) hbb
    have hg4l : g4 < w4.heap.size := hb4.lt
    have hg4b : g4 ≠ b := by rcases hor with h | h <;> omega
    have hg4s : g4 ≠ w.heap.size := by rcases hor with h | h <;> omega
    have hg4m : g4 ≠ m := by rcases hor with h | h <;> omega
    refine ⟨?_, ?_, ?_, ?_, ?_, ?_, good_snoc hold.good hn hs (by show fenceOf rs node < fr + span; have := hold.s1; omega), hg4b.symm, hbm, hg4m, hold.s1, hold.s2⟩
    · rw [World.cell?_setCell_other _ _ _ _ (by simp <;> omega), World.cell?_setCell_other _ _ _ _ (by simp <;> omega), World.cell?_setCell_other _ _ _ _ (by simp <;> omega), World.cell?_setCell_other _ _ _ _ (by simp), cc]
      exact hold.c0
    · rw [World.cell?_setCell_other _ _ _ _ (by simp <;> omega), World.cell?_setCell_other _ _ _ _ (by simp <;> omega), World.cell?_setCell_other _ _ _ _ (by simp <;> omega), World.cell?_setCell_other _ _ _ _ (by simp), cc]
      exact hold.c1
    · rw [World.cell?_setCell_other _ _ _ _ (by simp <;> omega), World.cell?_setCell_other _ _ _ _ (by simp <;> omega), World.cell?_setCell_other _ _ _ _ (by simp <;> omega), jtext_snoc, List.length_append]
      exact World.cell?_setCell_same _ _ _ ((cc 2).trans hold.c2)
    · intro o
      rw [World.frozen?_setCell, World.frozen?_setCell, World.frozen?_setCell, World.frozen?_setCell]
      exact (World.frozen?_of_block (w := w) (a := ⟨b, o, none⟩) hbb).trans (hold.fz o)
    · have hm4 : w4.heap[m]? = w2.heap[m]? := (hg4.block m (by omega) (by simpa using hgm.symm)).trans (hb3.block m (show m < w2.heap.size by omega))
      rw [List.length_append, List.length_singleton]
      refine (hm2.on ?_).to (Nat.le_refl _) (fun k _ => (fence_snoc rs (node, fr + span) k).symm)
      rw [hsb _ _ _ _ (by show m ≠ w.heap.size; omega), hsb _ _ _ _ (by show m ≠ w.heap.size; omega), hsb _ _ _ _ (by show m ≠ w.heap.size; omega), hsb _ _ _ _ (by show m ≠ b; omega)]
      exact hm4
    · rw [jtext_snoc]
      refine hb4.on ?_
      rw [hsb _ _ _ _ hg4s, hsb _ _ _ _ hg4s, hsb _ _ _ _ hg4s, hsb _ _ _ _ hg4b]

set_option maxRecDepth 100000 in
set_option maxHeartbeats 2000000 in
theorem lease_walk {w : World} {b m g cap span : Nat} {rs : List (Nat × Nat)} (h : OfficeAt w b m g cap span rs) (node fr : Nat) (now : Int) (hn : node < 1024)
    (hmx : (if (if now < 0 then 0 else now) < (fenceOf rs node : Int) then (fenceOf rs node : Int) else if now < 0 then 0 else now) = (fr : Int))
    (hs : fr + span ≤ 2199023255552) (hlen : 13 * (rs.length + 1) ≤ 140737488355328) :
    Calls Try.prog 20 #[.pointer (some ⟨b, 0, none⟩), .int .i64 node, .int .i64 now] w fun e w' => e = .returned (.tuple #[.agg #[.int .i64 node, .int .i64 fr, .int .i64 (fr + span)], .int .i64 0]) ∧
      Leased w w' b m g span rs node fr := by
  have c0 := h.c0
  have c1 := h.c1
  have c2 := h.c2
  have f0 := h.fz
  have hlt := h.lt
  have hlk := ((h.fences.on (w' := w.alloc (.cells #[.int .i64 0, .int .i64 0, .int .i64 0] 39)) (heap_alloc_old _ _ hlt.2.1)).look node hn 0)
  have s1 := h.s1
  have s2 := h.s2
  rw [World.drewN_zero] at hlk
  have hlt0 := hlt.1
  have hH : Hid _ := h
  have hFr : Hid (fenceOf rs node ≤ fr) := by
    show _ ≤ _
    split at hmx <;> omega
  clear h hlt
  generalize (fenceOf rs node : Int) = F at *
  obtain ⟨W, hW⟩ : ∃ W, W = ((w.alloc (.cells #[.int .i64 0, .int .i64 0, .int .i64 0] 39)).alloc (.cells #[.int .i64 node, .int .i64 fr, .int .i64 ((fr : Int) + (span : Int))] 39)) := ⟨_, rfl⟩
  have hWb : Below w.heap.size w W := by rw [hW]; exact ((Below.refl _ w).alloc (Nat.le_refl _) _).alloc (by simp) _
  have hWs : W.heap.size = w.heap.size + 2 := by rw [hW]; simp
  have hold := hH.out
  have hlts := hold.lt
  obtain ⟨w2, hup, hm2, hg2⟩ := (hold.fences.on (w' := W.drew) (hWb.block _ hlts.2.1)).store node (fr + span) hn hs (by unfold maxLen; omega)
  rw [Int.natCast_add, hW] at hup
  have g2 : ∀ k, k < W.heap.size → k ≠ m → w2.heap[k]? = W.heap[k]? := fun k hk hne => hg2.block k hk (by simpa using hne)
  have c2' : w2.cell? ⟨b, 2, none⟩ = some (.slice (some ⟨g, 0, none⟩) (jtext rs).length cap) := (World.cell?_of_block (w := W) (g2 b (by omega) hold.bm)).trans ((hWb.cell (p := ⟨b, 2, none⟩) hlts.1).trans c2)
  have f2' : w2.frozen? ⟨b, 2, none⟩ = false := (World.frozen?_of_block (w := W) (a := ⟨b, 2, none⟩) (g2 b (by omega) hold.bm)).trans ((hWb.frozen (p := ⟨b, 2, none⟩) hlts.1).trans (f0 2))
  have hl2 : ∀ o, w2.cell? ⟨w.heap.size + 1, o, none⟩ = (#[.int .i64 node, .int .i64 fr, .int .i64 ((fr : Int) + (span : Int))] : Array Value)[o]? := fun o => by
    rw [World.cell?_of_block (w := W) (g2 (w.heap.size + 1) (by omega) (by omega)), hW]
    have := (cell_alloc_new (w.alloc (.cells #[.int .i64 0, .int .i64 0, .int .i64 0] 39)) #[.int .i64 node, .int .i64 fr, .int .i64 ((fr : Int) + (span : Int))] 39 o).1
    rw [show (w.alloc (.cells #[.int .i64 0, .int .i64 0, .int .i64 0] 39)).heap.size = w.heap.size + 1 from by simp] at this
    exact this
  have l20 := hl2 0
  have l21 := hl2 1
  have l22 := hl2 2
  simp only [List.getElem?_toArray, List.getElem?_cons_zero, List.getElem?_cons_succ] at l20 l21 l22
  have hr2 : ∀ o, w2.cell? ⟨w.heap.size, o, none⟩ = (#[.int .i64 0, .int .i64 0, .int .i64 0] : Array Value)[o]? ∧ w2.frozen? ⟨w.heap.size, o, none⟩ = false := fun o => by
    have hn := cell_alloc_new w #[.int .i64 0, .int .i64 0, .int .i64 0] 39 o
    have hbk := g2 w.heap.size (by omega) (by omega)
    have hbl : W.heap[w.heap.size]? = (w.alloc (.cells #[.int .i64 0, .int .i64 0, .int .i64 0] 39)).heap[w.heap.size]? := by rw [hW]; exact heap_alloc_old _ _ (by simp)
    exact ⟨(World.cell?_of_block (w := w.alloc (.cells #[.int .i64 0, .int .i64 0, .int .i64 0] 39)) (hbk.trans hbl)).trans hn.1, (World.frozen?_of_block (w := w.alloc (.cells #[.int .i64 0, .int .i64 0, .int .i64 0] 39)) (a := ⟨w.heap.size, o, none⟩) (hbk.trans hbl)).trans hn.2⟩
  have hr2 : Hid _ := hr2
  have hs2 : Hid (w.heap.size + 2 ≤ w2.heap.size) := by show _ ≤ _; have := hg2.size; simp at this; omega
  have hgl : Hid (g < w.heap.size ∧ b ≠ g) := ⟨hlts.2.2, hold.bg⟩
  have hWH : Hid _ := hW
  have hm2 : Hid _ := hm2
  have hg2 : Hid _ := hg2
  have g2 : Hid _ := g2
  have hwr := fun w => rwrite_any node fr (fr + span) w hn (by omega) hs
  rw [Int.natCast_add] at hwr
  have hB2 : Hid (BytesAt w2 g cap (jtext rs)) := hold.bytes.on ((g2.out g (by omega) hold.gm).trans (hWb.block _ hlts.2.2))
  have hWbH : Hid _ := hWb
  have hln : Hid ((jtext rs).length + (recText node (fr + span)).length ≤ 140737488355328) := by show _ ≤ _; rw [jtext_length, recText_length]; omega
  have hWsH : Hid (W.heap.size = w.heap.size + 2) := hWs
  clear hold hlts hl2 hWb hW hWs
  go_enter Try.func20, Try.ntmps20
  go_wp2
  go_region
  go_wp2
  go_region_law (first
    | (refine step_append_bytes rfl (.tmp 53) (.tmp 55) rfl hB3.out (by simp [Act.eval]) (by simp [Act.eval]) hln.out ?_
       intro g4 cap4 w4 hb4 hg4 hor4
       have hk4 : ∀ k, k < w2.heap.size → k ≠ g → w4.heap[k]? = w2.heap[k]? := fun k hk hne => (hg4.block k (Nat.lt_of_lt_of_le hk hb3.out.size) (by simpa using hne)).trans (hb3.out.block k hk)
       have hs2' := hs2.out
       have c4 : w4.cell? ⟨b, 2, none⟩ = some (.slice (some ⟨g, 0, none⟩) (jtext rs).length cap) := (World.cell?_of_block (w := w2) (hk4 b (by omega) hgl.out.2)).trans c2'
       have f4 : w4.frozen? ⟨b, 2, none⟩ = false := (World.frozen?_of_block (w := w2) (a := ⟨b, 2, none⟩) (hk4 b (by omega) hgl.out.2)).trans f2'
       have hg' := hgl.out.1
       have l40 := (World.cell?_of_block (w := w2) (a := ⟨w.heap.size + 1, 0, none⟩) (hk4 (w.heap.size + 1) (by omega) (by omega))).trans l20
       have l41 := (World.cell?_of_block (w := w2) (a := ⟨w.heap.size + 1, 1, none⟩) (hk4 (w.heap.size + 1) (by omega) (by omega))).trans l21
       have l42 := (World.cell?_of_block (w := w2) (a := ⟨w.heap.size + 1, 2, none⟩) (hk4 (w.heap.size + 1) (by omega) (by omega))).trans l22
       have r40 : w4.cell? ⟨w.heap.size, 0, none⟩ = some (.int .i64 0) := (World.cell?_of_block (w := w2) (hk4 w.heap.size (by omega) (by omega))).trans (hr2.out 0).1
       have r41 : w4.cell? ⟨w.heap.size, 1, none⟩ = some (.int .i64 0) := (World.cell?_of_block (w := w2) (hk4 w.heap.size (by omega) (by omega))).trans (hr2.out 1).1
       have r42 : w4.cell? ⟨w.heap.size, 2, none⟩ = some (.int .i64 0) := (World.cell?_of_block (w := w2) (hk4 w.heap.size (by omega) (by omega))).trans (hr2.out 2).1
       have rf : ∀ o, w4.frozen? ⟨w.heap.size, o, none⟩ = false := fun o => (World.frozen?_of_block (w := w2) (a := ⟨w.heap.size, o, none⟩) (hk4 w.heap.size (by omega) (by omega))).trans (hr2.out o).2
       replace hb4 : Hid _ := hb4
       replace hg4 : Hid _ := hg4
       replace hor4 : Hid _ := hor4
       replace hk4 : Hid _ := hk4)
    | (go_simp
       go_at_call 36
       refine (hwr _).mono ?_
       rintro e w3 ⟨rfl, hb3⟩
       have hs2' := hs2.out
       have hB3 : Hid (BytesAt w3 g cap (jtext rs)) := hB2.out.on (hb3.block g hB2.out.lt)
       have c3 : w3.cell? ⟨b, 2, none⟩ = some (.slice (some ⟨g, 0, none⟩) (jtext rs).length cap) := (hb3.cell (p := ⟨b, 2, none⟩) (by show b < w2.heap.size; omega)).trans c2'
       replace hb3 : Hid _ := hb3))
  all_goals
    go_wp2
    have hX : ∀ o, (w4.setCell ⟨b, 2, none⟩ (.slice (some ⟨g4, 0, none⟩) ((jtext rs).length + (recText node (fr + span)).length) cap4)).cell? ⟨w.heap.size, o, none⟩ = w4.cell? ⟨w.heap.size, o, none⟩ := fun o => World.cell?_setCell_other _ _ _ _ (by simp <;> omega)
    obtain ⟨q0, q1, q2⟩ := set_three _ w.heap.size (.int .i64 node) (.int .i64 fr) (.int .i64 ((fr : Int) + (span : Int))) ((hX 0).trans r40) ((hX 1).trans r41) ((hX 2).trans r42)
    refine bodyPost_ret (v := .tuple #[.agg #[.int .i64 node, .int .i64 fr, .int .i64 ((fr : Int) + (span : Int))], .int .i64 0]) (by simp [results, Try.results20, go_sem, q0, q1, q2]) rfl ⟨rfl, ?_⟩
    exact lease_done hH.out hn hs hFr.out hWbH.out hWsH.out hg2.out hm2.out hb3.out hb4.out hg4.out hor4.out _ _ _
end Go.Proofs.Ytdplffhieekfaaa
