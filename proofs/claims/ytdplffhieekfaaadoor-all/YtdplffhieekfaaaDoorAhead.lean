/-
  (*Desk).makeAhead lays the next numbers of a time into a new channel.
  Conditions: a desk in memory, a time below MaxTime that has a number left.
-/
import Derived.Test.YtdplffhieekfaaaDoorDesk
namespace Go.Proofs.YtdplffhieekfaaaDoor
open Go.RowKit Go.Conc Go.Sort

theorem chanElem : ∃ i, Tryd.prog.info? 25 = some i ∧ i.bytes = 8 := by
  have h : (Tryd.prog.info? 25).map (·.bytes) = some 8 := by kernel_rfl
  obtain ⟨i, hi, hb⟩ := Option.map_eq_some_iff.1 h
  exact ⟨i, hi, hb⟩
theorem mkChan (w : World) : (Instr.makeChan 64 (.int .i64 32)).run Tryd.prog w = .ok (.chan (some w.heap.size)) (w.alloc (.chan 32 #[] false 0 0 false)) := by
  obtain ⟨i, hi, hb⟩ := chanElem
  simpa using run_makeChan (P := Tryd.prog) (w := w) Tryd.underlying64 hi .i64 32 (by omega) (by rw [hb]; omega)

/-- The second part of a sequence. -/
def restOf : Code → Code
  | .seq _ y => y
  | c => c
/-- What a block holds. -/
def inOf : Code → Code
  | .block _ c => c
  | .loop c => c
  | c => c

/-- The world at the head of a round: k - first numbers lie in the channel K. -/
structure AtRound (W V : World) (b K : Nat) (t node first : Int) (k : Nat) : Prop where
  keep : Keep (fun i => i = b) W V
  big : K < V.heap.size
  cells : ∀ o, o ≠ 6 → V.cell? ⟨b, o, none⟩ = W.cell? ⟨b, o, none⟩
  c6 : V.cell? ⟨b, 6, none⟩ = some (.chan (some K))
  fz : ∀ o, V.frozen? ⟨b, o, none⟩ = W.frozen? ⟨b, o, none⟩
  buf : ∃ (buf : Array Value) (sn : Nat), V.heap[K]? = some (.chan 32 buf false sn 0 false) ∧ buf.size = k ∧ ∀ j, j < k → buf[j]? = some (.int .u64 (numOf t node (first + j)))

set_option maxRecDepth 100000 in
set_option maxHeartbeats 1000000 in
theorem ahead_round (b K k : Nat) (t first node made : Int) (W V : World) (x24 x25 x26 x27 x28 x29 x30 x31 x32 x33 x34 x35 x36 x37 x38 x39 x40 x41 x42 x43 x44 x6 x7 x8 x9 x10 x11 x12 x13 x14 x15 x16 x17 x18 x19 x20 x21 x22 x23 : Value)
    (hV : AtRound W V b K t node first k) (h0 : W.cell? ⟨b, 0, none⟩ = some (.int .i64 node)) (h5 : W.cell? ⟨b, 5, none⟩ = some (.int .i64 made))
    (hbK : b ≠ K) (hKW : K = W.heap.size)
    (t0 : 0 ≤ t) (t1 : t < 2199023255552) (n0 : 0 ≤ node) (n1 : node < 1024) (f0 : 0 ≤ first) (hk : first + k < made) (hm : made ≤ 4096) (hm2 : made ≤ first + 32)
    (Q : Exit → Act → World → Prop)
    (hQ : ∀ (y24 y25 y26 y27 y28 y29 y30 y31 y32 y33 y34 y35 y36 y37 y38 y39 y40 y41 y42 y43 y44 : Value) (V' : World), AtRound W V' b K t node first (k + 1) →
      Q .normal { tmps := #[.pointer (some ⟨b, 0, none⟩), .int .i64 t, undef, undef, .int .i64 first, .int .i64 (first + k + 1), x6, x7, x8, x9, x10, x11, x12, x13, x14, x15, x16, x17, x18, x19, x20, x21, x22, x23, y24, y25, y26, y27, y28, y29, y30, y31, y32, y33, y34, y35, y36, y37, y38, y39, y40, y41, y42, y43, y44], defers := [] } V') :
    wpN Tryd.prog (inOf (inOf (restOf (restOf (restOf (restOf (Tryd.f60.body.getD .skip))))))) Q { tmps := #[.pointer (some ⟨b, 0, none⟩), .int .i64 t, undef, undef, .int .i64 first, .int .i64 (first + k), x6, x7, x8, x9, x10, x11, x12, x13, x14, x15, x16, x17, x18, x19, x20, x21, x22, x23, x24, x25, x26, x27, x28, x29, x30, x31, x32, x33, x34, x35, x36, x37, x38, x39, x40, x41, x42, x43, x44], defers := [] } V := by
  obtain ⟨keep, big, cells, c6, fz, buf, sn, hc, hsz, hel⟩ := hV
  have v0 : V.cell? ⟨b, 0, none⟩ = some (.int .i64 node) := by rw [cells 0 (by decide)]; exact h0
  have v5 : V.cell? ⟨b, 5, none⟩ = some (.int .i64 made) := by rw [cells 5 (by decide)]; exact h5
  have hbV : b < V.heap.size := block_lt_of_cell v0
  have cells' : Hid (∀ o, o ≠ 6 → V.cell? ⟨b, o, none⟩ = W.cell? ⟨b, o, none⟩) := cells
  have fz' : Hid (∀ o, V.frozen? ⟨b, o, none⟩ = W.frozen? ⟨b, o, none⟩) := fz
  have hel' : Hid (∀ j, j < k → buf[j]? = some (.int .u64 (numOf t node (first + j)))) := hel
  have hsz' : Hid (buf.size = k) := hsz
  have hKW' : Hid (K = W.heap.size) := hKW
  have hQ' : Hid _ := hQ
  clear cells fz hel hsz hKW hQ h0 h5
  have k0 := cell_regrown v0
  have k6 := cell_regrown c6
  have cJ : ∀ d os, Calls Tryd.prog 83 #[.agg #[.int .i64 t, .int .i64 node, .int .i64 (first + k)]] (grow (redrawn V d) os) fun e w'' => e = .returned (.int .u64 (numOf t node (first + k))) ∧ ∃ p : Regrown, w'' = grow (redrawn V p.d) p.os :=
    fun d os => Calls.regrown_of (join_any _ _ _ _ t0 (by omega) n0 n1 (by omega) (by omega))
  simp only [Tryd.f60, Option.getD_some, restOf, inOf]
  refine wpN_seq_k fun K1 hK1 => ?_
  go_wp2
  refine wpN_seq ?_
  refine wpN_block ?_
  refine wpN_region_last_lit (C := fun w' => ∃ p : Regrown, w' = grow (redrawn V p.d) p.os) (by kernel_rfl) rfl rfl rfl (by kernel_rfl) (by kernel_rfl) (by kernel_rfl) ⟨⟨V.drawn + 1, #[]⟩, by rw [grow_empty]; rfl⟩ ?_
  simp only [List.dropLast]
  repeat (quiet_step (exact cJ _ _))
  refine wpQuiet_nil ?_
  intro _ hw'
  obtain ⟨⟨dq, osq⟩, hw''⟩ := hw'
  subst hw''
  have hblk : (grow (redrawn V dq) osq).heap[K]? = some (.chan 32 buf false sn 0 false) := by rw [(below_regrown V dq osq).block K big]; exact hc
  have hroom : buf.size < 32 := by have := hsz'.out; omega
  refine opsN_send (c := K) (v := .int .u64 (numOf t node (first + k))) (z := .tuple #[]) (cap := 32) (buf := buf) (s := sn) (r := 0) (tm := false) rfl rfl (by simp [execOp, scase, Act.eval]) hblk hroom ?_
  refine opsN_nil ?_
  refine wpN_of_wp (Q := Q) ?_
  have hbel := below_regrown V dq osq
  generalize hX : (grow (redrawn V dq) osq) = X at *
  go_wp2
  refine hQ'.out _ _ _ _ _ _ _ _ _ _ _ _ _ _ _ _ _ _ _ _ _ _ ?_
  have hbX : b < X.heap.size := Nat.lt_of_lt_of_le hbV hbel.size
  have hKX : K < X.heap.size := Nat.lt_of_lt_of_le big hbel.size
  have hoth : ∀ i, i ≠ K → (X.setChan K 32 (buf.push (.int .u64 (numOf t node (first + k)))) false (sn + 1) 0 false).heap[i]? = X.heap[i]? := fun i hi => by
    simp only [World.setChan]; rw [Array.getElem?_setIfInBounds_ne (by omega)]
  have hcell : ∀ o, (X.setChan K 32 (buf.push (.int .u64 (numOf t node (first + k)))) false (sn + 1) 0 false).cell? ⟨b, o, none⟩ = V.cell? ⟨b, o, none⟩ := fun o => by
    rw [World.cell?_of_block (w := X) (hoth b hbK)]; exact hbel.cell (p := ⟨b, o, none⟩) hbV
  have hfro : ∀ o, (X.setChan K 32 (buf.push (.int .u64 (numOf t node (first + k)))) false (sn + 1) 0 false).frozen? ⟨b, o, none⟩ = V.frozen? ⟨b, o, none⟩ := fun o => by
    rw [World.frozen?_of_block (w := X) (hoth b hbK)]; exact hbel.frozen (p := ⟨b, o, none⟩) hbV
  refine ⟨?_, by rw [size_setChan]; exact hKX, fun o ho => (hcell o).trans (cells'.out o ho), (hcell 6).trans c6, fun o => (hfro o).trans (fz'.out o), _, _, heap_setChan _ _ _ _ _ _ _ _ hKX, by simp [hsz'.out], fun j hj => ?_⟩
  · exact (keep.trans (Keep.of_below hbel)).setChan (fun hlt => by have := hKW'.out; omega) _ _ _ _ _ _
  · have hs := hsz'.out
    rw [Array.getElem?_push]
    by_cases hjk : j = buf.size
    · rw [if_pos hjk, hjk, hs]
    · rw [if_neg hjk]; exact hel'.out j (by omega)
set_option maxRecDepth 100000 in
set_option maxHeartbeats 1000000 in
theorem ahead_loop (b K : Nat) (t first node made : Int) (W V : World) (x6 x7 x8 x9 x10 x11 x12 x13 x14 x15 x16 x17 x18 x19 x20 x21 x22 x23 : Value)
    (hV : AtRound W V b K t node first 0) (h0 : W.cell? ⟨b, 0, none⟩ = some (.int .i64 node)) (h5 : W.cell? ⟨b, 5, none⟩ = some (.int .i64 made))
    (hbK : b ≠ K) (hKW : K = W.heap.size)
    (t0 : 0 ≤ t) (t1 : t < 2199023255552) (n0 : 0 ≤ node) (n1 : node < 1024) (f0 : 0 ≤ first) (hk : first ≤ made) (hm : made ≤ 4096) (hm2 : made ≤ first + 32)
    (R : Ending → World → Prop) (hR : ∀ V', AtRound W V' b K t node first (made - first).toNat → R (.returned (.tuple #[])) V') :
    wpN Tryd.prog (restOf (restOf (restOf (restOf (Tryd.f60.body.getD .skip))))) (bodyPost Tryd.prog Tryd.f60 R) { tmps := #[.pointer (some ⟨b, 0, none⟩), .int .i64 t, undef, undef, .int .i64 first, .int .i64 first, x6, x7, x8, x9, x10, x11, x12, x13, x14, x15, x16, x17, x18, x19, x20, x21, x22, x23, undef, undef, undef, undef, undef, undef, undef, undef, undef, undef, undef, undef, undef, undef, undef, undef, undef, undef, undef, undef, undef], defers := [] } V := by
  refine wpN_block ?_
  refine wpN_loop (fun a w => ∃ (k : Nat) (y24 y25 y26 y27 y28 y29 y30 y31 y32 y33 y34 y35 y36 y37 y38 y39 y40 y41 y42 y43 y44 : Value), first + k ≤ made ∧ AtRound W w b K t node first k ∧
      a = { tmps := #[.pointer (some ⟨b, 0, none⟩), .int .i64 t, undef, undef, .int .i64 first, .int .i64 (first + k), x6, x7, x8, x9, x10, x11, x12, x13, x14, x15, x16, x17, x18, x19, x20, x21, x22, x23, y24, y25, y26, y27, y28, y29, y30, y31, y32, y33, y34, y35, y36, y37, y38, y39, y40, y41, y42, y43, y44], defers := [] })
    (fun a _ => (made - intOf (a.tmps.getD 5 undef)).toNat) ?_ ?_
  · exact ⟨0, undef, undef, undef, undef, undef, undef, undef, undef, undef, undef, undef, undef, undef, undef, undef, undef, undef, undef, undef, undef, undef, by omega, hV, by simp⟩
  · rintro a w ⟨k, y24, y25, y26, y27, y28, y29, y30, y31, y32, y33, y34, y35, y36, y37, y38, y39, y40, y41, y42, y43, y44, hle, hw, rfl⟩
    by_cases hlt : first + k < made
    · refine ahead_round b K k t first node made W w y24 y25 y26 y27 y28 y29 y30 y31 y32 y33 y34 y35 y36 y37 y38 y39 y40 y41 y42 y43 y44 x6 x7 x8 x9 x10 x11 x12 x13 x14 x15 x16 x17 x18 x19 x20 x21 x22 x23 hw h0 h5 hbK hKW t0 t1 n0 n1 f0 hlt hm hm2 _ ?_
      intro z24 z25 z26 z27 z28 z29 z30 z31 z32 z33 z34 z35 z36 z37 z38 z39 z40 z41 z42 z43 z44 V' hV'
      refine ⟨⟨k + 1, z24, z25, z26, z27, z28, z29, z30, z31, z32, z33, z34, z35, z36, z37, z38, z39, z40, z41, z42, z43, z44, by omega, hV', ?_⟩, ?_⟩
      · have e1 : first + ((k + 1 : Nat) : Int) = first + k + 1 := by omega
        rw [e1]
      · simp [intOf]; omega
    · have hkm : Hid ((made - first).toNat = k) := by show _ = _; omega
      have v5 : w.cell? ⟨b, 5, none⟩ = some (.int .i64 made) := by rw [hw.cells 5 (by decide)]; exact h5
      have hw' : Hid (AtRound W w b K t node first k) := hw
      have hR' : Hid _ := hR
      clear hw hR h0 h5 hV
      refine wpN_seq_k fun K1 hK1 => ?_
      go_wp2
      go_end0
      refine hR'.out w ?_
      rw [hkm.out]
      exact hw'.out

/-- Behind the new channel: the loop's first round. -/
theorem round_zero (W : World) (b : Nat) (t node first : Int) (v6 : Value) (hb : b < W.heap.size) (h6 : W.cell? ⟨b, 6, none⟩ = some v6) :
    AtRound W ((W.setCell ⟨b, 6, none⟩ (.chan (some W.heap.size))).alloc (.chan 32 #[] false 0 0 false)) b W.heap.size t node first 0 := by
  have hsz : (W.setCell ⟨b, 6, none⟩ (.chan (some W.heap.size))).heap.size = W.heap.size := by simp [World.setCell]
  have hblk := Below.heap_alloc (W.setCell ⟨b, 6, none⟩ (.chan (some W.heap.size))) (.chan 32 #[] false 0 0 false) b (by omega)
  have hcell : ∀ o, ((W.setCell ⟨b, 6, none⟩ (.chan (some W.heap.size))).alloc (.chan 32 #[] false 0 0 false)).cell? ⟨b, o, none⟩ = (W.setCell ⟨b, 6, none⟩ (.chan (some W.heap.size))).cell? ⟨b, o, none⟩ := fun o => World.cell?_of_block (w := W.setCell ⟨b, 6, none⟩ (.chan (some W.heap.size))) hblk
  refine ⟨((Keep.refl (fun i => i = b) W).setCell (p := ⟨b, 6, none⟩) (fun _ => rfl) _).alloc _, by simp [World.setCell], fun o ho => ?_, ?_, fun o => ?_, #[], 0, ?_, rfl, fun j hj => absurd hj (by omega)⟩
  · rw [hcell o, World.cell?_setCell_other _ ⟨b, 6, none⟩ ⟨b, o, none⟩ _ (by simp)]
  · rw [hcell 6]; exact World.cell?_setCell_same _ _ _ h6
  · rw [World.frozen?_of_block (w := W.setCell ⟨b, 6, none⟩ (.chan (some W.heap.size))) hblk, World.frozen?_setCell]
  · have := heap_alloc_new (W.setCell ⟨b, 6, none⟩ (.chan (some W.heap.size))) (.chan 32 #[] false 0 0 false)
    rw [hsz] at this; exact this

set_option maxRecDepth 100000 in
set_option maxHeartbeats 1000000 in
theorem ahead_rest (b : Nat) (t first node made : Int) (W : World) (v6 x6 x7 x8 x9 x10 x11 x12 x13 x14 x15 x16 x17 x18 : Value)
    (h0 : W.cell? ⟨b, 0, none⟩ = some (.int .i64 node)) (h5 : W.cell? ⟨b, 5, none⟩ = some (.int .i64 made)) (h6 : W.cell? ⟨b, 6, none⟩ = some v6) (hz : W.frozen? ⟨b, 6, none⟩ = false)
    (t0 : 0 ≤ t) (t1 : t < 2199023255552) (n0 : 0 ≤ node) (n1 : node < 1024) (f0 : 0 ≤ first) (hk : first ≤ made) (hm : made ≤ 4096) (hm2 : made ≤ first + 32)
    (R : Ending → World → Prop) (hR : ∀ V', AtRound W V' b W.heap.size t node first (made - first).toNat → R (.returned (.tuple #[])) V') :
    wpN Tryd.prog (restOf (restOf (Tryd.f60.body.getD .skip))) (bodyPost Tryd.prog Tryd.f60 R) { tmps := #[.pointer (some ⟨b, 0, none⟩), .int .i64 t, undef, undef, .int .i64 first, undef, x6, x7, x8, x9, x10, x11, x12, x13, x14, x15, x16, x17, x18, undef, undef, undef, undef, undef, undef, undef, undef, undef, undef, undef, undef, undef, undef, undef, undef, undef, undef, undef, undef, undef, undef, undef, undef, undef, undef], defers := [] } W := by
  have hb : b < W.heap.size := block_lt_of_cell h0
  have hmk := mkChan
  have hx : (W.alloc (.chan 32 #[] false 0 0 false)).cell? ⟨b, 6, none⟩ = some v6 := (World.cell?_of_block (w := W) (Below.heap_alloc _ _ _ hb)).trans h6
  have hy : (W.alloc (.chan 32 #[] false 0 0 false)).frozen? ⟨b, 6, none⟩ = false := (World.frozen?_of_block (w := W) (Below.heap_alloc _ _ _ hb)).trans hz
  have hR' : Hid _ := hR
  have r0 : Hid _ := round_zero W b t node first v6 hb h6
  have g0 : Hid _ := h0
  have g5 : Hid _ := h5
  clear hR h0 h5 h6
  refine wpN_seq_k fun K1 hK1 => ?_
  go_wp2
  refine wpN_seq_k fun K1 hK1 => ?_
  go_wp2
  exact ahead_loop b W.heap.size t first node made W _ _ _ _ _ _ _ _ _ _ _ _ _ _ _ _ _ _ _ r0.out g0.out g5.out (by omega) rfl t0 t1 n0 n1 f0 hk hm hm2 R hR'.out

set_option maxRecDepth 100000 in
set_option maxHeartbeats 1000000 in
theorem ahead_any (b : Nat) (t first node made : Int) (v4 v5 v6 : Value) (w : World)
    (hs : Calls Tryd.prog 59 #[.pointer (some ⟨b, 0, none⟩), .int .i64 t] w fun e w' => e = .returned (.int .i64 first) ∧ ∃ n, w' = w.drewN n)
    (h0 : w.cell? ⟨b, 0, none⟩ = some (.int .i64 node)) (h4 : w.cell? ⟨b, 4, none⟩ = some v4) (h5 : w.cell? ⟨b, 5, none⟩ = some v5) (h6 : w.cell? ⟨b, 6, none⟩ = some v6) (hz : ∀ o, w.frozen? ⟨b, o, none⟩ = false)
    (t0 : 0 ≤ t) (t1 : t < 2199023255552) (n0 : 0 ≤ node) (n1 : node < 1024) (f0 : 0 ≤ first) (f1 : first < 4096) (hmade : made = if 4096 < first + 32 then 4096 else first + 32) :
    Calls Tryd.prog 60 #[.pointer (some ⟨b, 0, none⟩), .int .i64 t] w fun e w' => e = .returned (.tuple #[]) ∧
      ∃ n, AtRound (((w.drewN n).setCell ⟨b, 4, none⟩ (.int .i64 t)).setCell ⟨b, 5, none⟩ (.int .i64 made)) w' b w.heap.size t node first (made - first).toNat := by
  have hbs : b < w.heap.size := block_lt_of_cell h0
  have fin : ∀ n, wpN Tryd.prog (restOf (restOf (Tryd.f60.body.getD .skip))) (bodyPost Tryd.prog Tryd.f60 fun e w' => e = .returned (.tuple #[]) ∧
      ∃ n, AtRound (((w.drewN n).setCell ⟨b, 4, none⟩ (.int .i64 t)).setCell ⟨b, 5, none⟩ (.int .i64 made)) w' b w.heap.size t node first (made - first).toNat) { tmps := #[.pointer (some ⟨b, 0, none⟩), .int .i64 t, undef, undef, .int .i64 first, undef, .pointer (some ⟨b, 0, none⟩), .int .i64 t, .int .i64 first, .pointer (some ⟨b, 0, none⟩), .pointer (some ⟨b, 0, none⟩), .int .i64 t, .int .i64 first, .int .i64 (first + 32), .int .i64 made, .pointer (some ⟨b, 0, none⟩), .pointer (some ⟨b, 4, none⟩), .pointer (some ⟨b, 0, none⟩), .pointer (some ⟨b, 5, none⟩), undef, undef, undef, undef, undef, undef, undef, undef, undef, undef, undef, undef, undef, undef, undef, undef, undef, undef, undef, undef, undef, undef, undef, undef, undef, undef], defers := [] }
      (((w.drewN n).setCell ⟨b, 4, none⟩ (.int .i64 t)).setCell ⟨b, 5, none⟩ (.int .i64 made)) := by
    intro n
    have g0 : (w.drewN n).cell? ⟨b, 0, none⟩ = some (.int .i64 node) := h0
    have g4 : (w.drewN n).cell? ⟨b, 4, none⟩ = some v4 := h4
    have g5 : (w.drewN n).cell? ⟨b, 5, none⟩ = some v5 := h5
    have g6 : (w.drewN n).cell? ⟨b, 6, none⟩ = some v6 := h6
    refine ahead_rest b t first node made _ v6 _ _ _ _ _ _ _ _ _ _ _ _ _ ?_ ?_ ?_ ?_ t0 t1 n0 n1 f0 (by split at hmade <;> omega) (by split at hmade <;> omega) (by split at hmade <;> omega) _ ?_
    · rw [World.cell?_setCell_other _ ⟨b, 5, none⟩ ⟨b, 0, none⟩ _ (by simp), World.cell?_setCell_other _ ⟨b, 4, none⟩ ⟨b, 0, none⟩ _ (by simp)]; exact g0
    · exact World.cell?_setCell_same _ _ _ ((World.cell?_setCell_other _ ⟨b, 4, none⟩ ⟨b, 5, none⟩ _ (by simp)).trans g5)
    · rw [World.cell?_setCell_other _ ⟨b, 5, none⟩ ⟨b, 6, none⟩ _ (by simp), World.cell?_setCell_other _ ⟨b, 4, none⟩ ⟨b, 6, none⟩ _ (by simp)]; exact g6
    · rw [World.frozen?_setCell, World.frozen?_setCell]; exact hz 6
    · intro V' hV'
      have e1 : (((w.drewN n).setCell ⟨b, 4, none⟩ (.int .i64 t)).setCell ⟨b, 5, none⟩ (.int .i64 made)).heap.size = w.heap.size := by simp [World.setCell, World.drewN]
      rw [e1] at hV'
      exact ⟨rfl, n, hV'⟩
  have hfin : Hid _ := fin
  clear fin h6
  by_cases hmin : 4096 < first + 32
  · rw [if_pos hmin] at hmade
    subst hmade
    refine calls_of_wpN Tryd.func60 rfl ?_
    simp only [Tryd.ntmps60, List.size_toArray, List.length_cons, List.length_nil, Nat.reduceAdd, Nat.reduceSub, Array.replicate_succ,
      Array.replicate_zero, List.push_toArray, List.append_toArray, List.nil_append, List.cons_append]
    refine wpN_seq_k fun K hK => ?_
    go_wp2_with (go_at_call 59; refine hs.mono ?_; rintro e w' ⟨rfl, m, rfl⟩)
    refine wpN_seq_k fun K hK => ?_
    go_wp2
    exact hfin.out _
  · rw [if_neg hmin] at hmade
    subst hmade
    refine calls_of_wpN Tryd.func60 rfl ?_
    simp only [Tryd.ntmps60, List.size_toArray, List.length_cons, List.length_nil, Nat.reduceAdd, Nat.reduceSub, Array.replicate_succ,
      Array.replicate_zero, List.push_toArray, List.append_toArray, List.nil_append, List.cons_append]
    refine wpN_seq_k fun K hK => ?_
    go_wp2_with (go_at_call 59; refine hs.mono ?_; rintro e w' ⟨rfl, m, rfl⟩)
    refine wpN_seq_k fun K hK => ?_
    go_wp2
    exact hfin.out _

end Go.Proofs.YtdplffhieekfaaaDoor
