/-
  An office in memory; NewOffice, Journal.
  An office's Journal and Lease.
  Offices: Lease whatever is asked, NewOffice of a span that is none; leases as plain data; an office that begins anew.
-/
import Derived.Test.YtdplffhieekfaaaDoorRecs
namespace Go.Proofs.YtdplffhieekfaaaDoor
open Go.RowKit Go.Maps Go.Lib

/-- An office in memory: its own block, the map's, the row of its journal's bytes; its span, its records. -/
structure OfficeAt (w : World) (b m g cap span : Nat) (rs : List (Nat × Nat)) : Prop where
  c0 : w.cell? ⟨b, 0, none⟩ = some (.int .i64 span)
  c1 : w.cell? ⟨b, 1, none⟩ = some (.map (some m))
  c2 : w.cell? ⟨b, 2, none⟩ = some (.slice (some ⟨g, 0, none⟩) (jtext rs).length cap)
  fz : ∀ o, w.frozen? ⟨b, o, none⟩ = false
  fences : FenceMap w m rs.length (fenceOf rs)
  bytes : BytesAt w g cap (jtext rs)
  good : Good rs
  bg : b ≠ g
  bm : b ≠ m
  gm : g ≠ m
  s1 : 1 ≤ span
  s2 : span ≤ 1000000

theorem OfficeAt.lt {w : World} {b m g cap span : Nat} {rs : List (Nat × Nat)} (h : OfficeAt w b m g cap span rs) : b < w.heap.size ∧ m < w.heap.size ∧ g < w.heap.size :=
  ⟨block_lt_of_cell h.c0, h.fences.lt, h.bytes.lt⟩

/-- It stays while its three blocks do. -/
theorem OfficeAt.on {w w' : World} {b m g cap span : Nat} {rs : List (Nat × Nat)} (h : OfficeAt w b m g cap span rs) (hb : w'.heap[b]? = w.heap[b]?) (hm : w'.heap[m]? = w.heap[m]?) (hg : w'.heap[g]? = w.heap[g]?) : OfficeAt w' b m g cap span rs := by
  have hc : ∀ o, w'.cell? ⟨b, o, none⟩ = w.cell? ⟨b, o, none⟩ := fun o => World.cell?_of_block (w := w) hb
  exact ⟨(hc 0).trans h.c0, (hc 1).trans h.c1, (hc 2).trans h.c2, fun o => (World.frozen?_of_block (w := w) (a := ⟨b, o, none⟩) hb).trans (h.fz o), h.fences.on hm, h.bytes.on hg, h.good, h.bg, h.bm, h.gm, h.s1, h.s2⟩

/-- What NewOffice answers. -/
def OfficeNew (l : List UInt8) (span : Nat) (w w' : World) (e : Ending) : Prop :=
  (∃ (b m g cap : Nat) (rs : List (Nat × Nat)), e = .returned (.tuple #[.pointer (some ⟨b, 0, none⟩), .int .i64 0]) ∧ w.heap.size ≤ b ∧ w.heap.size ≤ m ∧ w.heap.size ≤ g ∧
      l.take (13 * (l.length / 13)) = jtext rs ∧ begins (l.drop (13 * (l.length / 13))) = true ∧ OfficeAt w' b m g cap span rs) ∨
  (e = .returned (.tuple #[.pointer none, .int .i64 2]) ∧ (begins (l.drop (13 * (l.length / 13))) = false ∨ ∀ rs, Good rs → l.take (13 * (l.length / 13)) ≠ jtext rs))

set_option maxRecDepth 100000 in
set_option maxHeartbeats 1000000 in
theorem newOffice_any (l : List UInt8) (span : Nat) (w : World) (h1 : 1 ≤ span) (h2 : span ≤ 1000000) (hl : l.length ≤ 140737488355328) :
    Calls Tryd.prog 54 #[.string (btext l), .int .i64 span] w fun e w' => OfficeNew l span w w' e ∧ Below w.heap.size w w' := by
  have hwh : (l.length : Int) - (l.length : Int) % 13 = ((13 * (l.length / 13) : Nat) : Int) := by omega
  have hd : (btext l).extract (13 * (l.length / 13)) l.length = btext (l.drop (13 * (l.length / 13))) := btext_drop l _
  have ht : (btext l).extract 0 (13 * (l.length / 13)) = btext (l.take (13 * (l.length / 13))) := btext_take l _
  have hbg := fun w => begins_any (l.drop (13 * (l.length / 13))) w (by rw [List.length_drop]; omega)
  have hlt : (l.take (13 * (l.length / 13))).length = 13 * (l.length / 13) := by rw [List.length_take]; omega
  have hrf := fun w => readFences_any (l.take (13 * (l.length / 13))) w (by rw [hlt]; omega) (by rw [hlt]; omega)
  rw [← hd] at hbg
  rw [← ht] at hrf
  replace hd : Hid _ := hd
  replace ht : Hid _ := ht
  replace hlt : Hid _ := hlt
  by_cases hb : begins (l.drop (13 * (l.length / 13))) = true
  · have hbH : Hid _ := hb
    rw [hb] at hbg
    clear hb
    go_enter Tryd.func54, Tryd.ntmps54
    go_wp2_with fail
    refine (hbg _).mono ?_
    rintro e w1 ⟨rfl, hb1⟩
    have hb1 : Hid _ := hb1
    clear hbg
    go_wp2_with fail
    refine (hrf _).mono ?_
    rintro e w2 ⟨hR, hb2⟩
    have hb2 : Hid _ := hb2
    clear hrf
    rcases hR with ⟨m, rs, he, hm, hj, hg, hf⟩ | ⟨he, hn⟩
    · subst he
      replace hj : Hid _ := hj
      have hg : Hid _ := hg
      have hf : Hid _ := hf
      have hm : Hid _ := hm
      obtain ⟨cap, w3, hcv, hby, hb3⟩ := bytes_made w2 (l.take (13 * (l.length / 13))) (by rw [hlt.out]; unfold maxLen; omega)
      rw [← ht.out, hlt.out] at hcv
      have hby : Hid _ := hby
      have hb3 : Hid _ := hb3
      go_wp2
      go_ret2
      have hc := fun o => cell_alloc_new w3 #[.int .i64 span, .map (some m), .slice (some ⟨w2.heap.size, 0, none⟩) (13 * (l.length / 13)) cap] 132 o
      have hlen : (jtext rs).length = 13 * (l.length / 13) := by rw [← hj.out]; exact hlt.out
      have s1 := hb1.out.size
      have s2 := hb2.out.size
      have s3 := hb3.out.size
      have hby' := hby.out
      rw [hj.out] at hby'
      have l1 := hf.out.lt
      have l2 := hby'.lt
      have hm' := hm.out
      refine ⟨Or.inl ⟨w3.heap.size, m, w2.heap.size, cap, rs, rfl, by omega, by omega, by omega, hj.out, hbH.out, ⟨(hc 0).1, (hc 1).1, by rw [hlen]; exact (hc 2).1, fun o => (hc o).2, ?_, ?_, hg.out, by omega, by omega, by omega, h1, h2⟩⟩, ?_⟩
      · exact (hf.out.on (hb3.out.block _ (by omega))).on (heap_alloc_old _ _ (by omega))
      · exact hby'.on (heap_alloc_old _ _ (by omega))
      · exact (hb1.out.trans ((hb2.out.trans (hb3.out.mono hb2.out.size)).mono hb1.out.size)).alloc (by omega) _
    · subst he
      replace hn : Hid _ := hn
      go_wp2
      go_ret2
      exact ⟨Or.inr ⟨rfl, Or.inr hn.out⟩, hb1.out.trans (hb2.out.mono hb1.out.size)⟩
  · have hb : begins (l.drop (13 * (l.length / 13))) = false := by simpa using hb
    have hbH : Hid _ := hb
    rw [hb] at hbg
    clear hb hrf
    go_enter Tryd.func54, Tryd.ntmps54
    go_wp2_with fail
    refine (hbg _).mono ?_
    rintro e w1 ⟨rfl, hb1⟩
    have hb1 : Hid _ := hb1
    go_wp2
    go_ret2
    exact ⟨Or.inr ⟨rfl, Or.inl hbH.out⟩, hb1.out⟩
end Go.Proofs.YtdplffhieekfaaaDoor
namespace Go.Proofs.YtdplffhieekfaaaDoor
open Go.RowKit Go.Maps Go.Lib

theorem step_append_bytes {ops : Array Oper} {o : Oper} {a : Act} {w : World} {K : Act → World → Prop} {Q : Exit → Act → World → Prop} {E : Prop}
    (hg : o.guard = none) (s x : Operand) (hop : o.op = Op.call { callee := Callee.builtin Builtin.append, args := #[s, x], argTypes := #[32, 9] })
    {g cap : Nat} {l t : List UInt8} (hb : BytesAt w g cap l) (hs : a.eval s = .slice (some ⟨g, 0, none⟩) l.length cap) (hx : a.eval x = .string (btext t)) (hl : l.length + t.length ≤ 140737488355328)
    (hK : ∀ g' cap' w', BytesAt w' g' cap' (l ++ t) → w.grownBy w' (some g) → (g' = g ∨ g' = w.heap.size) → K (a.put o.dst (.slice (some ⟨g', 0, none⟩) (l ++ t).length cap')) w') :
    if Region.wanted o (yielded ops a.tmps) = true then Oper.wp Tryd.prog o a w K Q else E := by
  have hw : Region.wanted o (yielded ops a.tmps) = true := by simp [Region.wanted, hg]
  rw [if_pos hw]
  obtain ⟨g', cap', w', hr, h1, h2, h3⟩ := hb.append t o.type hl
  unfold Oper.wp
  simp only [execOp, hop, resolve, invoke, builtin, List.map_toArray, List.map_cons, List.map_nil, hs, hx, hr, Sem.run_bind, Sem.run_pure, Result.andThen_ok]
  exact hK g' cap' w' h1 h2 h3

set_option maxRecDepth 100000 in
theorem journal_any {w : World} {b m g cap span : Nat} {rs : List (Nat × Nat)} (h : OfficeAt w b m g cap span rs) :
    Calls Tryd.prog 56 #[.pointer (some ⟨b, 0, none⟩)] w fun e w' => e = .returned (.string (btext (jtext rs))) ∧ w' = w := by
  have c2 := h.c2
  have ht := h.bytes.text
  clear h
  generalize jtext rs = l at *
  go_enter Tryd.func56, Tryd.ntmps56
  go_wp2
  go_ret
  exact ⟨rfl, rfl⟩

/-- Where a window begins. -/
def fromOf (now : Int) (fence : Nat) : Int := max (max now 0) fence

set_option maxRecDepth 100000 in
set_option maxHeartbeats 1000000 in
theorem lease_spent {w : World} {b m g cap span : Nat} {rs : List (Nat × Nat)} (h : OfficeAt w b m g cap span rs) (node : Nat) (now : Int) (hn : node < 1024) (h1 : -9223372036854775808 ≤ now) (h2 : now ≤ 9223372036854775807)
    (hs : 2199023255552 - (span : Int) < fromOf now (fenceOf rs node)) :
    Calls Tryd.prog 57 #[.pointer (some ⟨b, 0, none⟩), .int .i64 node, .int .i64 now] w fun e w' => e = .returned (.tuple #[.agg #[.int .i64 0, .int .i64 0, .int .i64 0], .int .i64 7]) ∧ Below w.heap.size w w' := by
  have c0 := h.c0
  have c1 := h.c1
  have hlt := h.lt
  have hlk := ((h.fences.on (w' := w.alloc (.cells #[.int .i64 0, .int .i64 0, .int .i64 0] 44)) (heap_alloc_old _ _ hlt.2.1)).look node hn 0)
  have s1 := h.s1
  have s2 := h.s2
  rw [World.drewN_zero] at hlk
  have hfl : (fenceOf rs node : Int) ≤ 2199023255552 := by have := fence_le h.good node; omega
  have hf0 : (0 : Int) ≤ (fenceOf rs node : Int) := by omega
  have hlt0 := hlt.1
  unfold fromOf at hs
  clear h hlt
  generalize (fenceOf rs node : Int) = F at *
  go_enter Tryd.func57, Tryd.ntmps57
  go_wp2
  all_goals
    refine bodyPost_ret (v := .tuple #[.agg #[.int .i64 0, .int .i64 0, .int .i64 0], .int .i64 7]) (by simp [results, Tryd.results57, go_sem]) rfl ⟨rfl, ?_⟩
    exact (Below.refl _ w).alloc (Nat.le_refl _) _

/-- What Lease leaves: one record more. -/
structure Leased (w w' : World) (b m g span : Nat) (rs : List (Nat × Nat)) (node fr : Nat) : Prop where
  keep : Keep (fun k => k = b ∨ k = m ∨ k = g) w w'
  off : ∃ g' cap', (g' = g ∨ w.heap.size ≤ g') ∧ OfficeAt w' b m g' cap' span (rs ++ [(node, fr + span)])

theorem set_three (X : World) (B : Nat) (x0 x1 x2 : Value) {y0 y1 y2 : Value} (h0 : X.cell? ⟨B, 0, none⟩ = some y0) (h1 : X.cell? ⟨B, 1, none⟩ = some y1) (h2 : X.cell? ⟨B, 2, none⟩ = some y2) :
    (X.setCell ⟨B, 0, none⟩ x0).cell? ⟨B, 0, none⟩ = some x0 ∧ ((X.setCell ⟨B, 0, none⟩ x0).setCell ⟨B, 1, none⟩ x1).cell? ⟨B, 1, none⟩ = some x1 ∧
    (((X.setCell ⟨B, 0, none⟩ x0).setCell ⟨B, 1, none⟩ x1).setCell ⟨B, 2, none⟩ x2).cell? ⟨B, 2, none⟩ = some x2 := by
  have e1 : (X.setCell ⟨B, 0, none⟩ x0).cell? ⟨B, 1, none⟩ = some y1 := by rw [World.cell?_setCell_other _ _ _ _ (by simp)]; exact h1
  have e2 : ((X.setCell ⟨B, 0, none⟩ x0).setCell ⟨B, 1, none⟩ x1).cell? ⟨B, 2, none⟩ = some y2 := by
    rw [World.cell?_setCell_other _ _ _ _ (by simp), World.cell?_setCell_other _ _ _ _ (by simp)]; exact h2
  exact ⟨World.cell?_setCell_same _ _ _ h0, World.cell?_setCell_same _ _ _ e1, World.cell?_setCell_same _ _ _ e2⟩

theorem lease_done {w W w2 w3 w4 : World} {b m g cap span : Nat} {rs : List (Nat × Nat)} {node fr g4 cap4 : Nat} (hold : OfficeAt w b m g cap span rs) (hn : node < 1024) (hs : fr + span ≤ 2199023255552) (hF : fenceOf rs node ≤ fr)
    (hWb : Below w.heap.size w W) (hWs : W.heap.size = w.heap.size + 2) (hg2 : W.drew.grownBy w2 (some m)) (hm2 : FenceMap w2 m (rs.length + 1) (fun k => if node = k then fr + span else fenceOf rs k))
    (hb3 : Below w2.drew.heap.size w2.drew w3) (hb4 : BytesAt w4 g4 cap4 (jtext rs ++ recText node (fr + span))) (hg4 : w3.grownBy w4 (some g)) (hor : g4 = g ∨ g4 = w3.heap.size) (x0 x1 x2 : Value) :
    Leased w ((((w4.setCell ⟨b, 2, none⟩ (.slice (some ⟨g4, 0, none⟩) ((jtext rs).length + (recText node (fr + span)).length) cap4)).setCell ⟨w.heap.size, 0, none⟩ x0).setCell ⟨w.heap.size, 1, none⟩ x1).setCell ⟨w.heap.size, 2, none⟩ x2) b m g span rs node fr := by
  have hl := hold.lt
  have hbm := hold.bm
  have hbg := hold.bg
  have hgm := hold.gm
  have sz2 : w.heap.size + 2 ≤ w2.heap.size := by have := hg2.size; simp at this; omega
  have sz3 : w2.heap.size ≤ w3.heap.size := hb3.size
  have sz4 : w3.heap.size ≤ w4.heap.size := hg4.size
  have k4 : ∀ k, k < w.heap.size → k ≠ m → k ≠ g → w4.heap[k]? = w.heap[k]? := fun k hk h1 h2 =>
    (hg4.block k (by omega) (by simpa using h2)).trans ((hb3.block k (show k < w2.heap.size by omega)).trans ((hg2.block k (show k < W.heap.size by omega) (by simpa using h1)).trans (hWb.block k hk)))
  have hsb : ∀ (X : World) (p : Addr) (u : Value) (k : Nat), k ≠ p.block → (X.setCell p u).heap[k]? = X.heap[k]? := fun X p u k hk => Below.heap_setCell _ _ _ _ hk
  have keep4 : Keep (fun k => k = b ∨ k = m ∨ k = g) w w4 :=
    ⟨hg4.os.trans (hb3.os.trans (hg2.os.trans hWb.os)), hg4.tape.trans (hb3.tape.trans (hg2.tape.trans hWb.tape)), hg4.output.trans (hb3.output.trans (hg2.output.trans hWb.output)), by omega, fun k hk hne => k4 k hk (fun e => hne (by simp [e])) (fun e => hne (by simp [e]))⟩
  refine ⟨(((keep4.setCell (fun _ => Or.inl rfl) _).setCell (fun h => absurd h (Nat.lt_irrefl _)) _).setCell (fun h => absurd h (Nat.lt_irrefl _)) _).setCell (fun h => absurd h (Nat.lt_irrefl _)) _, g4, cap4, ?_, ?_⟩
  · rcases hor with h | h
    · exact Or.inl h
    · exact Or.inr (by omega)
  · have hbb : w4.heap[b]? = w.heap[b]? := k4 b hl.1 hbm hbg
    have cc : ∀ o, w4.cell? ⟨b, o, none⟩ = w.cell? ⟨b, o, none⟩ := fun o => World.cell?_of_block (w := w) hbb
    have hg4l : g4 < w4.heap.size := hb4.lt
    have hg4b : g4 ≠ b := by rcases hor with h | h <;> omega
    have hg4s : g4 ≠ w.heap.size := by rcases hor with h | h <;> omega
    have hg4m : g4 ≠ m := by rcases hor with h | h <;> omega
    refine ⟨?_, ?_, ?_, ?_, ?_, ?_, good_snoc hold.good hn hs (by show fenceOf rs node < fr + span; have := hold.s1; omega), hg4b.symm, hbm, hg4m, hold.s1, hold.s2⟩
    · rw [World.cell?_setCell_other _ _ _ _ (by simp <;> omega), World.cell?_setCell_other _ _ _ _ (by simp <;> omega), World.cell?_setCell_other _ _ _ _ (by simp <;> omega), World.cell?_setCell_other _ _ _ _ (by simp), cc]
      exact hold.c0
    · rw [World.cell?_setCell_other _ _ _ _ (by simp <;> omega), World.cell?_setCell_other _ _ _ _ (by simp <;> omega), World.cell?_setCell_other _ _ _ _ (by simp <;> omega), World.cell?_setCell_other _ _ _ _ (by simp), cc]
      exact hold.c1
    · rw [World.cell?_setCell_other _ _ _ _ (by simp <;> omega), World.cell?_setCell_other _ _ _ _ (by simp <;> omega), World.cell?_setCell_other _ _ _ _ (by simp <;> omega), jtext_snoc, List.length_append]
      exact World.cell?_setCell_same _ _ _ ((cc 2).trans hold.c2)
    · intro o
      rw [World.frozen?_setCell, World.frozen?_setCell, World.frozen?_setCell, World.frozen?_setCell]
      exact (World.frozen?_of_block (w := w) (a := ⟨b, o, none⟩) hbb).trans (hold.fz o)
    · have hm4 : w4.heap[m]? = w2.heap[m]? := (hg4.block m (by omega) (by simpa using hgm.symm)).trans (hb3.block m (show m < w2.heap.size by omega))
      rw [List.length_append, List.length_singleton]
      refine (hm2.on ?_).to (Nat.le_refl _) (fun k _ => (fence_snoc rs (node, fr + span) k).symm)
      rw [hsb _ _ _ _ (by show m ≠ w.heap.size; omega), hsb _ _ _ _ (by show m ≠ w.heap.size; omega), hsb _ _ _ _ (by show m ≠ w.heap.size; omega), hsb _ _ _ _ (by show m ≠ b; omega)]
      exact hm4
    · rw [jtext_snoc]
      refine hb4.on ?_
      rw [hsb _ _ _ _ hg4s, hsb _ _ _ _ hg4s, hsb _ _ _ _ hg4s, hsb _ _ _ _ hg4b]

set_option maxRecDepth 100000 in
set_option maxHeartbeats 2000000 in
theorem lease_walk {w : World} {b m g cap span : Nat} {rs : List (Nat × Nat)} (h : OfficeAt w b m g cap span rs) (node fr : Nat) (now : Int) (hn : node < 1024)
    (hmx : (if (if now < 0 then 0 else now) < (fenceOf rs node : Int) then (fenceOf rs node : Int) else if now < 0 then 0 else now) = (fr : Int))
    (hs : fr + span ≤ 2199023255552) (hlen : 13 * (rs.length + 1) ≤ 140737488355328) :
    Calls Tryd.prog 57 #[.pointer (some ⟨b, 0, none⟩), .int .i64 node, .int .i64 now] w fun e w' => e = .returned (.tuple #[.agg #[.int .i64 node, .int .i64 fr, .int .i64 (fr + span)], .int .i64 0]) ∧
      Leased w w' b m g span rs node fr := by
  have c0 := h.c0
  have c1 := h.c1
  have c2 := h.c2
  have f0 := h.fz
  have hlt := h.lt
  have hlk := ((h.fences.on (w' := w.alloc (.cells #[.int .i64 0, .int .i64 0, .int .i64 0] 44)) (heap_alloc_old _ _ hlt.2.1)).look node hn 0)
  have s1 := h.s1
  have s2 := h.s2
  rw [World.drewN_zero] at hlk
  have hlt0 := hlt.1
  have hH : Hid _ := h
  have hFr : Hid (fenceOf rs node ≤ fr) := by
    show _ ≤ _
    split at hmx <;> omega
  clear h hlt
  generalize (fenceOf rs node : Int) = F at *
  obtain ⟨W, hW⟩ : ∃ W, W = ((w.alloc (.cells #[.int .i64 0, .int .i64 0, .int .i64 0] 44)).alloc (.cells #[.int .i64 node, .int .i64 fr, .int .i64 ((fr : Int) + (span : Int))] 44)) := ⟨_, rfl⟩
  have hWb : Below w.heap.size w W := by rw [hW]; exact ((Below.refl _ w).alloc (Nat.le_refl _) _).alloc (by simp) _
  have hWs : W.heap.size = w.heap.size + 2 := by rw [hW]; simp
  have hold := hH.out
  have hlts := hold.lt
  obtain ⟨w2, hup, hm2, hg2⟩ := (hold.fences.on (w' := W.drew) (hWb.block _ hlts.2.1)).store node (fr + span) hn hs (by unfold maxLen; omega)
  rw [Int.natCast_add, hW] at hup
  have g2 : ∀ k, k < W.heap.size → k ≠ m → w2.heap[k]? = W.heap[k]? := fun k hk hne => hg2.block k hk (by simpa using hne)
  have c2' : w2.cell? ⟨b, 2, none⟩ = some (.slice (some ⟨g, 0, none⟩) (jtext rs).length cap) := (World.cell?_of_block (w := W) (g2 b (by omega) hold.bm)).trans ((hWb.cell (p := ⟨b, 2, none⟩) hlts.1).trans c2)
  have f2' : w2.frozen? ⟨b, 2, none⟩ = false := (World.frozen?_of_block (w := W) (a := ⟨b, 2, none⟩) (g2 b (by omega) hold.bm)).trans ((hWb.frozen (p := ⟨b, 2, none⟩) hlts.1).trans (f0 2))
  have hl2 : ∀ o, w2.cell? ⟨w.heap.size + 1, o, none⟩ = (#[.int .i64 node, .int .i64 fr, .int .i64 ((fr : Int) + (span : Int))] : Array Value)[o]? := fun o => by
    rw [World.cell?_of_block (w := W) (g2 (w.heap.size + 1) (by omega) (by omega)), hW]
    have := (cell_alloc_new (w.alloc (.cells #[.int .i64 0, .int .i64 0, .int .i64 0] 44)) #[.int .i64 node, .int .i64 fr, .int .i64 ((fr : Int) + (span : Int))] 44 o).1
    rw [show (w.alloc (.cells #[.int .i64 0, .int .i64 0, .int .i64 0] 44)).heap.size = w.heap.size + 1 from by simp] at this
    exact this
  have l20 := hl2 0
  have l21 := hl2 1
  have l22 := hl2 2
  simp only [List.getElem?_toArray, List.getElem?_cons_zero, List.getElem?_cons_succ] at l20 l21 l22
  have hr2 : ∀ o, w2.cell? ⟨w.heap.size, o, none⟩ = (#[.int .i64 0, .int .i64 0, .int .i64 0] : Array Value)[o]? ∧ w2.frozen? ⟨w.heap.size, o, none⟩ = false := fun o => by
    have hn := cell_alloc_new w #[.int .i64 0, .int .i64 0, .int .i64 0] 44 o
    have hbk := g2 w.heap.size (by omega) (by omega)
    have hbl : W.heap[w.heap.size]? = (w.alloc (.cells #[.int .i64 0, .int .i64 0, .int .i64 0] 44)).heap[w.heap.size]? := by rw [hW]; exact heap_alloc_old _ _ (by simp)
    exact ⟨(World.cell?_of_block (w := w.alloc (.cells #[.int .i64 0, .int .i64 0, .int .i64 0] 44)) (hbk.trans hbl)).trans hn.1, (World.frozen?_of_block (w := w.alloc (.cells #[.int .i64 0, .int .i64 0, .int .i64 0] 44)) (a := ⟨w.heap.size, o, none⟩) (hbk.trans hbl)).trans hn.2⟩
  have hr2 : Hid _ := hr2
  have hs2 : Hid (w.heap.size + 2 ≤ w2.heap.size) := by show _ ≤ _; have := hg2.size; simp at this; omega
  have hgl : Hid (g < w.heap.size ∧ b ≠ g) := ⟨hlts.2.2, hold.bg⟩
  have hWH : Hid _ := hW
  have hm2 : Hid _ := hm2
  have hg2 : Hid _ := hg2
  have g2 : Hid _ := g2
  have hwr := fun w => rwrite_any node fr (fr + span) w hn (by omega) hs
  rw [Int.natCast_add] at hwr
  have hB2 : Hid (BytesAt w2 g cap (jtext rs)) := hold.bytes.on ((g2.out g (by omega) hold.gm).trans (hWb.block _ hlts.2.2))
  have hWbH : Hid _ := hWb
  have hln : Hid ((jtext rs).length + (recText node (fr + span)).length ≤ 140737488355328) := by show _ ≤ _; rw [jtext_length, recText_length]; omega
  have hWsH : Hid (W.heap.size = w.heap.size + 2) := hWs
  clear hold hlts hl2 hWb hW hWs
  go_enter Tryd.func57, Tryd.ntmps57
  go_wp2
  go_region
  go_wp2
  go_region_law (first
    | (refine step_append_bytes rfl (.tmp 53) (.tmp 55) rfl hB3.out (by simp [Act.eval]) (by simp [Act.eval]) hln.out ?_
       intro g4 cap4 w4 hb4 hg4 hor4
       have hk4 : ∀ k, k < w2.heap.size → k ≠ g → w4.heap[k]? = w2.heap[k]? := fun k hk hne => (hg4.block k (Nat.lt_of_lt_of_le hk hb3.out.size) (by simpa using hne)).trans (hb3.out.block k hk)
       have hs2' := hs2.out
       have c4 : w4.cell? ⟨b, 2, none⟩ = some (.slice (some ⟨g, 0, none⟩) (jtext rs).length cap) := (World.cell?_of_block (w := w2) (hk4 b (by omega) hgl.out.2)).trans c2'
       have f4 : w4.frozen? ⟨b, 2, none⟩ = false := (World.frozen?_of_block (w := w2) (a := ⟨b, 2, none⟩) (hk4 b (by omega) hgl.out.2)).trans f2'
       have hg' := hgl.out.1
       have l40 := (World.cell?_of_block (w := w2) (a := ⟨w.heap.size + 1, 0, none⟩) (hk4 (w.heap.size + 1) (by omega) (by omega))).trans l20
       have l41 := (World.cell?_of_block (w := w2) (a := ⟨w.heap.size + 1, 1, none⟩) (hk4 (w.heap.size + 1) (by omega) (by omega))).trans l21
       have l42 := (World.cell?_of_block (w := w2) (a := ⟨w.heap.size + 1, 2, none⟩) (hk4 (w.heap.size + 1) (by omega) (by omega))).trans l22
       have r40 : w4.cell? ⟨w.heap.size, 0, none⟩ = some (.int .i64 0) := (World.cell?_of_block (w := w2) (hk4 w.heap.size (by omega) (by omega))).trans (hr2.out 0).1
       have r41 : w4.cell? ⟨w.heap.size, 1, none⟩ = some (.int .i64 0) := (World.cell?_of_block (w := w2) (hk4 w.heap.size (by omega) (by omega))).trans (hr2.out 1).1
       have r42 : w4.cell? ⟨w.heap.size, 2, none⟩ = some (.int .i64 0) := (World.cell?_of_block (w := w2) (hk4 w.heap.size (by omega) (by omega))).trans (hr2.out 2).1
       have rf : ∀ o, w4.frozen? ⟨w.heap.size, o, none⟩ = false := fun o => (World.frozen?_of_block (w := w2) (a := ⟨w.heap.size, o, none⟩) (hk4 w.heap.size (by omega) (by omega))).trans (hr2.out o).2
       replace hb4 : Hid _ := hb4
       replace hg4 : Hid _ := hg4
       replace hor4 : Hid _ := hor4
       replace hk4 : Hid _ := hk4)
    | (go_simp
       go_at_call 82
       refine (hwr _).mono ?_
       rintro e w3 ⟨rfl, hb3⟩
       have hs2' := hs2.out
       have hB3 : Hid (BytesAt w3 g cap (jtext rs)) := hB2.out.on (hb3.block g hB2.out.lt)
       have c3 : w3.cell? ⟨b, 2, none⟩ = some (.slice (some ⟨g, 0, none⟩) (jtext rs).length cap) := (hb3.cell (p := ⟨b, 2, none⟩) (by show b < w2.heap.size; omega)).trans c2'
       replace hb3 : Hid _ := hb3))
  all_goals
    go_wp2
    have hX : ∀ o, (w4.setCell ⟨b, 2, none⟩ (.slice (some ⟨g4, 0, none⟩) ((jtext rs).length + (recText node (fr + span)).length) cap4)).cell? ⟨w.heap.size, o, none⟩ = w4.cell? ⟨w.heap.size, o, none⟩ := fun o => World.cell?_setCell_other _ _ _ _ (by simp <;> omega)
    obtain ⟨q0, q1, q2⟩ := set_three _ w.heap.size (.int .i64 node) (.int .i64 fr) (.int .i64 ((fr : Int) + (span : Int))) ((hX 0).trans r40) ((hX 1).trans r41) ((hX 2).trans r42)
    refine bodyPost_ret (v := .tuple #[.agg #[.int .i64 node, .int .i64 fr, .int .i64 ((fr : Int) + (span : Int))], .int .i64 0]) (by simp [results, Tryd.results57, go_sem, q0, q1, q2]) rfl ⟨rfl, ?_⟩
    exact lease_done hH.out hn hs hFr.out hWbH.out hWsH.out hg2.out hm2.out hb3.out hb4.out hg4.out hor4.out _ _ _
end Go.Proofs.YtdplffhieekfaaaDoor
namespace Go.Proofs.YtdplffhieekfaaaDoor
open Go.RowKit Go.Maps Go.Lib

/-- Lease, whatever the clock says: a window, or ErrSpent. -/
theorem lease_any {w : World} {b m g cap span : Nat} {rs : List (Nat × Nat)} (h : OfficeAt w b m g cap span rs) (node : Nat) (now : Int) (hn : node < 1024) (h1 : -9223372036854775808 ≤ now) (h2 : now ≤ 9223372036854775807) (hlen : 13 * (rs.length + 1) ≤ 140737488355328) :
    Calls Tryd.prog 57 #[.pointer (some ⟨b, 0, none⟩), .int .i64 node, .int .i64 now] w fun e w' =>
      (e = .returned (.tuple #[.agg #[.int .i64 0, .int .i64 0, .int .i64 0], .int .i64 7]) ∧ Below w.heap.size w w' ∧ 2199023255552 - (span : Int) < fromOf now (fenceOf rs node)) ∨
      ∃ fr : Nat, (fr : Int) = fromOf now (fenceOf rs node) ∧ fr + span ≤ 2199023255552 ∧ e = .returned (.tuple #[.agg #[.int .i64 node, .int .i64 fr, .int .i64 (fr + span)], .int .i64 0]) ∧ Leased w w' b m g span rs node fr := by
  by_cases hs : 2199023255552 - (span : Int) < fromOf now (fenceOf rs node)
  · exact (lease_spent h node now hn h1 h2 hs).mono fun e w' ⟨he, hb⟩ => Or.inl ⟨he, hb, hs⟩
  · have h0 : 0 ≤ fromOf now (fenceOf rs node) := by unfold fromOf; omega
    obtain ⟨fr, hfr⟩ : ∃ fr : Nat, (fr : Int) = fromOf now (fenceOf rs node) := ⟨(fromOf now (fenceOf rs node)).toNat, Int.toNat_of_nonneg h0⟩
    refine (lease_walk h node fr now hn ?_ (by omega) hlen).mono fun e w' ⟨he, hl⟩ => Or.inr ⟨fr, hfr, by omega, he, hl⟩
    rw [hfr]
    unfold fromOf
    split <;> split at * <;> omega

/-- A lease that was lent. -/
structure L3 where
  node : Nat
  frm : Nat
  to : Nat

def recs (ls : List L3) : List (Nat × Nat) := ls.map fun l => (l.node, l.to)
def leaseCells (ls : List L3) : List Value := ls.flatMap fun l => [.int .i64 l.node, .int .i64 l.frm, .int .i64 l.to]
def sizeCells (k : Nat) : List Value := (List.range k).map fun i => .int .i64 ((13 * (i + 1) : Nat) : Int)

theorem recs_snoc (ls : List L3) (l : L3) : recs (ls ++ [l]) = recs ls ++ [(l.node, l.to)] := by simp [recs]
theorem recs_length (ls : List L3) : (recs ls).length = ls.length := by simp [recs]
theorem leaseCells_snoc (ls : List L3) (l : L3) : leaseCells (ls ++ [l]) = leaseCells ls ++ [.int .i64 l.node, .int .i64 l.frm, .int .i64 l.to] := by simp [leaseCells]
theorem sizeCells_succ (k : Nat) : sizeCells (k + 1) = sizeCells k ++ [.int .i64 ((13 * (k + 1) : Nat) : Int)] := by simp [sizeCells, List.range_succ]

set_option maxRecDepth 100000 in
set_option maxHeartbeats 1000000 in
theorem lease_node (b : Nat) (node now : Int) (w : World) (hn : node < 0 ∨ 1024 ≤ node) :
    Calls Tryd.prog 57 #[.pointer (some ⟨b, 0, none⟩), .int .i64 node, .int .i64 now] w fun e w' => e = .returned (.tuple #[.agg #[.int .i64 0, .int .i64 0, .int .i64 0], .int .i64 3]) ∧ Below w.heap.size w w' := by
  by_cases h0 : node < 0
  · clear hn
    go_enter Tryd.func57, Tryd.ntmps57
    go_wp2
    refine bodyPost_ret (v := .tuple #[.agg #[.int .i64 0, .int .i64 0, .int .i64 0], .int .i64 3]) (by simp [results, Tryd.results57, go_sem]) rfl ⟨rfl, ?_⟩
    exact (Below.refl _ w).alloc (Nat.le_refl _) _
  · have h1 : 1024 ≤ node := by omega
    clear hn
    go_enter Tryd.func57, Tryd.ntmps57
    go_wp2
    refine bodyPost_ret (v := .tuple #[.agg #[.int .i64 0, .int .i64 0, .int .i64 0], .int .i64 3]) (by simp [results, Tryd.results57, go_sem]) rfl ⟨rfl, ?_⟩
    exact (Below.refl _ w).alloc (Nat.le_refl _) _

set_option maxRecDepth 100000 in
set_option maxHeartbeats 1000000 in
theorem newOffice_span (s : ByteArray) (span : Int) (w : World) (hs : span < 1 ∨ 1000000 < span) :
    Calls Tryd.prog 54 #[.string s, .int .i64 span] w fun e w' => e = .returned (.tuple #[.pointer none, .int .i64 6]) ∧ Below w.heap.size w w' := by
  by_cases h0 : span < 1
  · clear hs
    go_enter Tryd.func54, Tryd.ntmps54
    go_wp2
    go_ret2
    exact ⟨rfl, Below.refl _ _⟩
  · have h1 : 1000000 < span := by omega
    clear hs
    go_enter Tryd.func54, Tryd.ntmps54
    go_wp2
    go_ret2
    exact ⟨rfl, Below.refl _ _⟩

/-! ### an office that begins anew -/

theorem jtext_take (rs : List (Nat × Nat)) (k : Nat) : (jtext rs).take (13 * k) = jtext (rs.take k) := by
  induction rs generalizing k with
  | nil => simp [jtext]
  | cons r rs ih =>
    cases k with
    | zero => simp [jtext]
    | succ k =>
      rw [List.take_succ_cons, jtext_cons, jtext_cons, List.take_append, recText_length, ← ih k, List.take_of_length_le (by rw [recText_length]; omega)]
      congr 2 <;> omega

theorem jtext_drop (rs : List (Nat × Nat)) (k : Nat) : (jtext rs).drop (13 * k) = jtext (rs.drop k) := by
  induction rs generalizing k with
  | nil => simp [jtext]
  | cons r rs ih =>
    cases k with
    | zero => simp
    | succ k =>
      rw [List.drop_succ_cons, jtext_cons, List.drop_append, recText_length, ← ih k, List.drop_eq_nil_of_le (by rw [recText_length]; omega), List.nil_append]
      congr 1 <;> omega

theorem begins_tail (rs : List (Nat × Nat)) (hg : Good rs) (n : Nat) : begins (((jtext rs).take n).drop (13 * (n / 13))) = true := by
  rw [List.drop_take, jtext_drop]
  by_cases hk : n / 13 < rs.length
  · rw [List.drop_eq_getElem_cons hk, jtext_cons, List.take_append_of_le_length (by rw [recText_length]; omega)]
    have g := hg (n / 13) hk
    exact begins_take _ _ (recNum_lt _ _ g.1 (by omega) g.2.1) (by unfold recNum; omega) (by omega)
  · rw [List.drop_eq_nil_of_le (by omega)]
    have := begins_take 4095 0 (by omega) rfl (by omega)
    simpa [jtext] using this

/-- Of the beginning of a journal that an office told: an office with the records that are there whole. -/
theorem newOffice_told (rs : List (Nat × Nat)) (hg : Good rs) (n span : Nat) (w : World) (hn : n ≤ (jtext rs).length) (h1 : 1 ≤ span) (h2 : span ≤ 1000000) (hl : n ≤ 140737488355328) :
    Calls Tryd.prog 54 #[.string (btext ((jtext rs).take n)), .int .i64 span] w fun e w' => ∃ b m g cap, e = .returned (.tuple #[.pointer (some ⟨b, 0, none⟩), .int .i64 0]) ∧ w.heap.size ≤ b ∧ w.heap.size ≤ m ∧ w.heap.size ≤ g ∧
      OfficeAt w' b m g cap span (rs.take (n / 13)) ∧ Below w.heap.size w w' := by
  have hlen : ((jtext rs).take n).length = n := by rw [List.length_take]; omega
  have htk : ((jtext rs).take n).take (13 * (n / 13)) = jtext (rs.take (n / 13)) := by rw [List.take_take, Nat.min_eq_left (by omega), jtext_take]
  refine (newOffice_any ((jtext rs).take n) span w h1 h2 (by omega)).mono ?_
  rintro e w' ⟨hR, hb⟩
  rcases hR with ⟨b, m, g, cap, ss, he, hbb, hmm, hgg, hj, _, hO⟩ | ⟨_, hno⟩
  · rw [hlen, htk] at hj
    have hs : ss = rs.take (n / 13) := by
      have e1 := good_prefix hO.good (hg.take _) (rest := []) (by rw [List.append_nil]; exact hj)
      have e2 : ss.length = (rs.take (n / 13)).length := by
        have := congrArg List.length hj
        rw [jtext_length, jtext_length] at this
        omega
      rw [e1, e2, List.take_length]
    rw [hs] at hO
    exact ⟨b, m, g, cap, he, hbb, hmm, hgg, hO, hb⟩
  · rw [hlen] at hno
    rcases hno with h | h
    · rw [begins_tail rs hg n] at h; cases h
    · exact absurd htk (h _ (hg.take _))
end Go.Proofs.YtdplffhieekfaaaDoor
