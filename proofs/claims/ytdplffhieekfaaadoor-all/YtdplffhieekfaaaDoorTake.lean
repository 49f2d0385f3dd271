/-
  (*Desk).take hands over the next number of a time, out of the channel or behind makeAhead.
  Conditions: a desk in memory, a time below MaxTime that has a number left.
-/
import Derived.Test.YtdplffhieekfaaaDoorAhead
namespace Go.Proofs.YtdplffhieekfaaaDoor
open Go.RowKit Go.Conc Go.Sort

theorem cells_not_chan {w : World} {b k o cap s r : Nat} {v : Value} {buf : Array Value} {cl tm : Bool} (h : w.cell? ⟨b, o, none⟩ = some v) (hk : w.heap[k]? = some (.chan cap buf cl s r tm)) : b ≠ k := by
  rintro rfl
  simp only [World.cell?, hk] at h
  cases h

theorem setChan_cell {w : World} {b k o cap s r : Nat} {buf : Array Value} {cl tm : Bool} (h : b ≠ k) : (w.setChan k cap buf cl s r tm).cell? ⟨b, o, none⟩ = w.cell? ⟨b, o, none⟩ :=
  World.cell?_of_block (w := w) (by simp only [World.setChan]; rw [Array.getElem?_setIfInBounds_ne (by omega)])
theorem setChan_frozen {w : World} {b k o cap s r : Nat} {buf : Array Value} {cl tm : Bool} (h : b ≠ k) : (w.setChan k cap buf cl s r tm).frozen? ⟨b, o, none⟩ = w.frozen? ⟨b, o, none⟩ :=
  World.frozen?_of_block (w := w) (by simp only [World.setChan]; rw [Array.getElem?_setIfInBounds_ne (by omega)])

/-- A number was taken out of the channel. -/
theorem desk_taken {w : World} {b k sn rc : Nat} {s : Dk} {made : Int} {buf : Array Value} (ok : s.Ok) (hm : made ≤ 4096) (hc : Cells w b (some k) made s)
    (h1 : w.heap[k]? = some (.chan 32 buf false sn rc false)) (h2 : made = s.nxt + buf.size) (h3 : buf.size ≤ 32) (h4 : ∀ j, j < buf.size → buf[j]? = some (.int .u64 (numOf s.time s.node (s.nxt + j)))) (hp : 0 < buf.size) :
    buf.getD 0 undef = .int .u64 (numOf s.time s.node s.nxt) ∧ DeskAt (w.setChan k 32 (buf.extract 1 buf.size) false sn (rc + 1) false) b (some k) { s with nxt := s.nxt + 1 } ∧
      Keep (fun i => some k = some i) w (w.setChan k 32 (buf.extract 1 buf.size) false sn (rc + 1) false) := by
  have hbk : b ≠ k := cells_not_chan hc.c0 h1
  have hk : k < w.heap.size := by
    rcases Nat.lt_or_ge k w.heap.size with h | h
    · exact h
    · rw [Array.getElem?_eq_none h] at h1; cases h1
  refine ⟨?_, ⟨?_, made, hm, ?_, ?_⟩, (Keep.refl (fun i => some k = some i) w).setChan (fun _ => rfl) _ _ _ _ _ _⟩
  · have h0 := h4 0 hp
    simp only [Array.getD_eq_getD_getElem?, h0, Option.getD_some]
    simp
  · have := ok.x0
    exact ⟨ok.n0, ok.n1, ok.f0, ok.ft, ok.t1, ok.b0, ok.b1, ok.m0, ok.m1, by show 0 ≤ s.nxt + 1; omega, by show s.nxt + 1 ≤ 4096; omega⟩
  · exact ⟨(setChan_cell hbk).trans hc.c0, (setChan_cell hbk).trans hc.c1, (setChan_cell hbk).trans hc.c2, (setChan_cell hbk).trans hc.c3, (setChan_cell hbk).trans hc.c4, (setChan_cell hbk).trans hc.c5, (setChan_cell hbk).trans hc.c6, (setChan_cell hbk).trans hc.c7, fun o => (setChan_frozen hbk).trans (hc.fz o)⟩
  · refine ⟨_, _, _, heap_setChan _ _ _ _ _ _ _ _ hk, ?_, ?_, fun j hj => ?_⟩
    · show made = s.nxt + 1 + _
      simp only [Array.size_extract]; omega
    · simp only [Array.size_extract]; omega
    · simp only [Array.size_extract] at hj
      rw [Array.getElem?_extract, if_pos (by omega), h4 (1 + j) (by omega)]
      have e1 : s.nxt + ((1 + j : Nat) : Int) = s.nxt + 1 + j := by omega
      rw [e1]

/-- Behind makeAhead: what lies ready. -/
theorem desk_ahead {w w1 : World} {b n : Nat} {c : Option Nat} {s : Dk} {t first made made0 : Int} (ok : s.Ok) (hc : Cells w b c made0 s)
    (t0 : 0 ≤ t) (t1 : t < 2199023255552) (f0 : 0 ≤ first) (f1 : first < made) (hm : made ≤ 4096) (hm2 : made ≤ first + 32)
    (hV : AtRound (((w.drewN n).setCell ⟨b, 4, none⟩ (.int .i64 t)).setCell ⟨b, 5, none⟩ (.int .i64 made)) w1 b w.heap.size t s.node first (made - first).toNat) :
    ∃ (buf : Array Value) (sn : Nat), w1.heap[w.heap.size]? = some (.chan 32 buf false sn 0 false) ∧ 0 < buf.size ∧ w1.cell? ⟨b, 6, none⟩ = some (.chan (some w.heap.size)) ∧
      buf.getD 0 undef = .int .u64 (numOf t s.node first) ∧ DeskAt (w1.setChan w.heap.size 32 (buf.extract 1 buf.size) false sn 1 false) b (some w.heap.size) { s with time := t, nxt := first + 1 } ∧
      Keep (fun i => i = b) w (w1.setChan w.heap.size 32 (buf.extract 1 buf.size) false sn 1 false) := by
  obtain ⟨keep, big, cells, c6, fz, buf, sn, h1, h2, h4⟩ := hV
  have hc4 : (w.drewN n).cell? ⟨b, 4, none⟩ = some (.int .i64 s.time) := hc.c4
  have hc5 : (w.drewN n).cell? ⟨b, 5, none⟩ = some (.int .i64 made0) := hc.c5
  have hold : ∀ o, o ≠ 4 → o ≠ 5 → (((w.drewN n).setCell ⟨b, 4, none⟩ (.int .i64 t)).setCell ⟨b, 5, none⟩ (.int .i64 made)).cell? ⟨b, o, none⟩ = w.cell? ⟨b, o, none⟩ := fun o h4 h5 => by
    rw [World.cell?_setCell_other _ ⟨b, 5, none⟩ ⟨b, o, none⟩ _ (by simp), World.cell?_setCell_other _ ⟨b, 4, none⟩ ⟨b, o, none⟩ _ (by simp)]; rfl
  have e4 : (((w.drewN n).setCell ⟨b, 4, none⟩ (.int .i64 t)).setCell ⟨b, 5, none⟩ (.int .i64 made)).cell? ⟨b, 4, none⟩ = some (.int .i64 t) := by
    rw [World.cell?_setCell_other _ ⟨b, 5, none⟩ ⟨b, 4, none⟩ _ (by simp)]; exact World.cell?_setCell_same _ _ _ hc4
  have e5 : (((w.drewN n).setCell ⟨b, 4, none⟩ (.int .i64 t)).setCell ⟨b, 5, none⟩ (.int .i64 made)).cell? ⟨b, 5, none⟩ = some (.int .i64 made) :=
    World.cell?_setCell_same _ _ _ ((World.cell?_setCell_other _ ⟨b, 4, none⟩ ⟨b, 5, none⟩ _ (by simp)).trans hc5)
  have hC1 : Cells w1 b (some w.heap.size) made { s with time := t, nxt := first } :=
    ⟨(cells 0 (by decide)).trans ((hold 0 (by decide) (by decide)).trans hc.c0), (cells 1 (by decide)).trans ((hold 1 (by decide) (by decide)).trans hc.c1), (cells 2 (by decide)).trans ((hold 2 (by decide) (by decide)).trans hc.c2),
      (cells 3 (by decide)).trans ((hold 3 (by decide) (by decide)).trans hc.c3), (cells 4 (by decide)).trans e4, (cells 5 (by decide)).trans e5, c6, (cells 7 (by decide)).trans ((hold 7 (by decide) (by decide)).trans hc.c7),
      fun o => by rw [fz o, World.frozen?_setCell, World.frozen?_setCell]; exact hc.fz o⟩
  have ok1 : ({ s with time := t, nxt := first } : Dk).Ok := ⟨ok.n0, ok.n1, ok.f0, ok.ft, ok.t1, ok.b0, ok.b1, t0, t1, f0, by show first ≤ 4096; omega⟩
  have hsz : (buf.size : Int) = made - first := by omega
  obtain ⟨g1, g2, g3⟩ := desk_taken (s := { s with time := t, nxt := first }) ok1 hm hC1 h1 (by show made = first + _; omega) (by omega) (fun j hj => h4 j (by omega)) (by omega)
  refine ⟨buf, sn, h1, by omega, c6, g1, g2, ?_⟩
  have k1 : Keep (fun i => i = b) w (((w.drewN n).setCell ⟨b, 4, none⟩ (.int .i64 t)).setCell ⟨b, 5, none⟩ (.int .i64 made)) :=
    (((Keep.refl (fun i => i = b) w).drewN n).setCell (p := ⟨b, 4, none⟩) (fun _ => rfl) _).setCell (p := ⟨b, 5, none⟩) (fun _ => rfl) _
  exact (k1.trans keep).trans' g3 (fun i hi e => by simp at e; omega)

/-- What take owes. -/
def TakePost (w : World) (b : Nat) (c : Option Nat) (s : Dk) (t : Int) (e : Ending) (w' : World) : Prop :=
  e = .returned (.int .u64 (numOf t s.node (seqOf s t))) ∧ ∃ c', (c' = c ∨ ∃ k, w.heap.size ≤ k ∧ c' = some k) ∧
    DeskAt w' b c' { s with time := t, nxt := seqOf s t + 1 } ∧ Keep (fun i => i = b ∨ c = some i) w w'

set_option maxRecDepth 100000 in
set_option maxHeartbeats 1000000 in
/-- Where the select goes on. -/
theorem take_default {w : World} {b : Nat} {c : Option Nat} {s : Dk} (hd : DeskAt w b c s) (t : Int) (t0 : 0 ≤ t) (t1 : t < 2199023255552) (hq : seqOf s t < 4096)
    (x4 x5 x6 x7 x8 x9 x10 x11 x12 x13 x14 x15 x16 x17 x18 x19 : Value) :
    wpN Tryd.prog (restOf (restOf (restOf (restOf (restOf (Tryd.f31.body.getD .skip)))))) (bodyPost Tryd.prog Tryd.f31 (TakePost w b c s t))
      { tmps := #[.pointer (some ⟨b, 0, none⟩), .int .i64 t, undef, undef, x4, x5, x6, x7, x8, x9, x10, x11, x12, x13, x14, x15, x16, x17, x18, x19, .bool false, undef, undef, undef, undef, undef, undef, undef, undef, undef, undef], defers := [] } w := by
  have hseq := hd.seq t
  obtain ⟨ok, made0, hm0, hc, hr⟩ := hd
  have f0 : 0 ≤ seqOf s t := by unfold seqOf; split; exact ok.x0; omega
  have hA := ahead_any b t (seqOf s t) s.node _ _ _ _ w hseq hc.c0 hc.c4 hc.c5 hc.c6 hc.fz t0 t1 ok.n0 ok.n1 f0 hq rfl
  generalize hmade : (if 4096 < seqOf s t + 32 then 4096 else seqOf s t + 32) = made at hA
  have hm1 : seqOf s t < made := by split at hmade <;> omega
  have hm2 : made ≤ 4096 := by split at hmade <;> omega
  have hm3 : made ≤ seqOf s t + 32 := by split at hmade <;> omega
  have fin : Hid (∀ (n : Nat) (w1 : World), AtRound (((w.drewN n).setCell ⟨b, 4, none⟩ (.int .i64 t)).setCell ⟨b, 5, none⟩ (.int .i64 made)) w1 b w.heap.size t s.node (seqOf s t) (made - seqOf s t).toNat →
      ∃ (buf : Array Value) (sn : Nat), w1.heap[w.heap.size]? = some (.chan 32 buf false sn 0 false) ∧ 0 < buf.size ∧ w1.cell? ⟨b, 6, none⟩ = some (.chan (some w.heap.size)) ∧
        TakePost w b c s t (.returned (buf.getD 0 undef)) (w1.setChan w.heap.size 32 (buf.extract 1 buf.size) false sn 1 false)) := by
    intro n w1 hV
    obtain ⟨buf, sn, g1, g2, g3, g4, g5, g6⟩ := desk_ahead ok hc t0 t1 f0 hm1 hm2 hm3 hV
    exact ⟨buf, sn, g1, g2, g3, by rw [g4], _, .inr ⟨_, Nat.le_refl _, rfl⟩, g5, g6.mono (fun _ _ h => .inl h)⟩
  clear hseq hc hr hmade
  refine wpN_block ?_
  refine wpN_cond (t := false) (by simp [Act.eval]) ?_
  simp only [Bool.false_eq_true, if_false]
  refine wpN_seq_k fun K1 hK1 => ?_
  go_wp2_with (go_at_call 60; refine hA.mono ?_; rintro e w1 ⟨rfl, n, hV⟩)
  obtain ⟨buf, sn, g1, g2, g3, g4⟩ := fin.out n w1 hV
  clear hV fin hA
  refine wpN_seq ?_
  refine wpN_region_cut 4 (by decide) ?_ ?_
  · exact fun _ _ h => by cases h.1
  intro K2 hK2
  simp only [List.take]
  go_wp2
  refine opsN_recv (i := 4) (rest := List.range' 5 1) (c := w.heap.size) (z := .int .u64 0) (cap := 32) (buf := buf) (closed := false) (s := sn) (r := 0) (tm := false) rfl rfl (by simp [execOp, rcase, Act.eval]) g1 g2 ?_
  refine opsN_rest 5 1 rfl ?_
  simp only [List.drop]
  generalize buf.getD 0 undef = nv at g4
  refine wpList_plain rfl fun K3 hK3 => ?_
  go_simp
  refine hK3 _ _ ?_
  clear hK3 K3
  refine wpList_nil ?_
  refine wpN_of_wp (wp_ret ?_)
  exact bodyPost_ret (v := nv) (by simp [results, Tryd.results31, go_sem]) rfl g4

set_option maxRecDepth 100000 in
set_option maxHeartbeats 1000000 in
/-- The time is another one: nothing is ready in the nil channel. -/
theorem take_other {w : World} {b : Nat} {c : Option Nat} {s : Dk} (hd : DeskAt w b c s) (t : Int) (t0 : 0 ≤ t) (t1 : t < 2199023255552) (hne : t ≠ s.time) :
    Calls Tryd.prog 31 #[.pointer (some ⟨b, 0, none⟩), .int .i64 t] w (TakePost w b c s t) := by
  have fin : Hid _ := take_default hd t t0 t1 (by unfold seqOf; rw [if_neg hne]; omega)
  obtain ⟨ok, made0, hm0, hc, hr⟩ := hd
  have c4 := hc.c4
  have c6 := hc.c6
  clear hc hr
  have hb : (t != s.time) = true := by simpa using hne
  clear hne
  refine calls_of_wpN Tryd.func31 rfl ?_
  simp only [Tryd.ntmps31, List.size_toArray, List.length_cons, List.length_nil, Nat.reduceAdd, Nat.reduceSub, Array.replicate_succ,
    Array.replicate_zero, List.push_toArray, List.append_toArray, List.nil_append, List.cons_append]
  refine wpN_seq_k fun K hK => ?_
  go_wp2
  refine wpN_seq_k fun K hK => ?_
  go_wp2
  refine wpN_seq_k fun K hK => ?_
  go_wp2
  refine wpN_seq_k fun K hK => ?_
  go_wp2
  refine wpN_seq ?_
  refine wpN_region ?_
  refine opsN_sel_nil (i := 0) (rest := List.range' 1 2) (z := .int .u64 0) rfl rfl (by simp [go_sem, execOp, rcaseNil, Act.eval]) ?_
  refine opsN_rest 1 2 rfl ?_
  simp only [List.drop]
  go_wp2
  exact fin.out _ _ _ _ _ _ _ _ _ _ _ _ _ _ _ _

set_option maxRecDepth 100000 in
set_option maxHeartbeats 1000000 in
/-- The desk has made nothing yet. -/
theorem take_nil {w : World} {b : Nat} {s : Dk} (hd : DeskAt w b none s) :
    Calls Tryd.prog 31 #[.pointer (some ⟨b, 0, none⟩), .int .i64 s.time] w (TakePost w b none s s.time) := by
  have hn : s.nxt = 0 := by obtain ⟨ok, made0, hm0, hc, hr⟩ := hd; exact hr.2
  have fin : Hid _ := take_default hd s.time hd.ok.m0 hd.ok.m1 (by unfold seqOf; rw [if_pos rfl]; omega)
  obtain ⟨ok, made0, hm0, hc, hr⟩ := hd
  have c4 := hc.c4
  have c6 := hc.c6
  clear hc hr hn
  refine calls_of_wpN Tryd.func31 rfl ?_
  simp only [Tryd.ntmps31, List.size_toArray, List.length_cons, List.length_nil, Nat.reduceAdd, Nat.reduceSub, Array.replicate_succ,
    Array.replicate_zero, List.push_toArray, List.append_toArray, List.nil_append, List.cons_append]
  refine wpN_seq_k fun K hK => ?_
  go_wp2
  refine wpN_seq_k fun K hK => ?_
  go_wp2
  refine wpN_seq_k fun K hK => ?_
  go_wp2
  refine wpN_seq_k fun K hK => ?_
  go_wp2
  refine wpN_seq ?_
  refine wpN_region ?_
  refine opsN_sel_nil (i := 0) (rest := List.range' 1 2) (z := .int .u64 0) rfl rfl (by simp [go_sem, execOp, rcaseNil, Act.eval]) ?_
  refine opsN_rest 1 2 rfl ?_
  simp only [List.drop]
  go_wp2
  exact fin.out _ _ _ _ _ _ _ _ _ _ _ _ _ _ _ _

set_option maxRecDepth 100000 in
set_option maxHeartbeats 1000000 in
/-- All that was made was given. -/
theorem take_empty {w : World} {b k sn rc : Nat} {s : Dk} (hd : DeskAt w b (some k) s) (hk : w.heap[k]? = some (.chan 32 #[] false sn rc false)) (hn : s.nxt < 4096) :
    Calls Tryd.prog 31 #[.pointer (some ⟨b, 0, none⟩), .int .i64 s.time] w (TakePost w b (some k) s s.time) := by
  have fin : Hid _ := take_default hd s.time hd.ok.m0 hd.ok.m1 (by unfold seqOf; rw [if_pos rfl]; omega)
  obtain ⟨ok, made0, hm0, hc, hr⟩ := hd
  have c4 := hc.c4
  have c6 := hc.c6
  clear hc hr hn
  refine calls_of_wpN Tryd.func31 rfl ?_
  simp only [Tryd.ntmps31, List.size_toArray, List.length_cons, List.length_nil, Nat.reduceAdd, Nat.reduceSub, Array.replicate_succ,
    Array.replicate_zero, List.push_toArray, List.append_toArray, List.nil_append, List.cons_append]
  refine wpN_seq_k fun K hK => ?_
  go_wp2
  refine wpN_seq_k fun K hK => ?_
  go_wp2
  refine wpN_seq_k fun K hK => ?_
  go_wp2
  refine wpN_seq_k fun K hK => ?_
  go_wp2
  refine wpN_seq ?_
  refine wpN_region ?_
  refine opsN_sel_empty (i := 0) (rest := List.range' 1 2) (c := k) (z := .int .u64 0) rfl rfl (by simp [go_sem, execOp, rcase, Act.eval]) hk ?_
  refine opsN_rest 1 2 rfl ?_
  simp only [List.drop]
  go_wp2
  exact fin.out _ _ _ _ _ _ _ _ _ _ _ _ _ _ _ _

set_option maxRecDepth 100000 in
set_option maxHeartbeats 1000000 in
/-- A number lies ready. -/
theorem take_ready {w : World} {b k sn rc : Nat} {s : Dk} {buf : Array Value} (hd : DeskAt w b (some k) s) (hk : w.heap[k]? = some (.chan 32 buf false sn rc false)) (hp : 0 < buf.size) :
    Calls Tryd.prog 31 #[.pointer (some ⟨b, 0, none⟩), .int .i64 s.time] w (TakePost w b (some k) s s.time) := by
  obtain ⟨ok, made, hm0, hc, buf', sn', rc', h1, h2, h3, h4⟩ := hd
  have he := hk.symm.trans h1
  simp only [Option.some.injEq, Obj.chan.injEq] at he
  obtain ⟨_, rfl, _, rfl, rfl, _⟩ := he
  obtain ⟨g1, g2, g3⟩ := desk_taken ok hm0 hc hk h2 h3 h4 hp
  have fin : Hid (TakePost w b (some k) s s.time (.returned (buf.getD 0 undef)) (w.setChan k 32 (buf.extract 1 buf.size) false sn (rc + 1) false)) := by
    have e1 : seqOf s s.time = s.nxt := by unfold seqOf; rw [if_pos rfl]
    refine ⟨by rw [g1, e1], some k, .inl rfl, ?_, g3.mono (fun _ _ h => .inr h)⟩
    rw [e1]; exact g2
  have c4 := hc.c4
  have c6 := hc.c6
  clear hc g1 g2 g3 h1 h2 h3 h4
  refine calls_of_wpN Tryd.func31 rfl ?_
  simp only [Tryd.ntmps31, List.size_toArray, List.length_cons, List.length_nil, Nat.reduceAdd, Nat.reduceSub, Array.replicate_succ,
    Array.replicate_zero, List.push_toArray, List.append_toArray, List.nil_append, List.cons_append]
  refine wpN_seq_k fun K hK => ?_
  go_wp2
  refine wpN_seq_k fun K hK => ?_
  go_wp2
  refine wpN_seq_k fun K hK => ?_
  go_wp2
  refine wpN_seq_k fun K hK => ?_
  go_wp2
  refine wpN_seq ?_
  refine wpN_region ?_
  refine opsN_sel_buf (i := 0) (rest := List.range' 1 2) (c := k) (z := .int .u64 0) rfl rfl (by simp [go_sem, execOp, rcase, Act.eval]) hk hp ?_
  refine opsN_rest 1 2 rfl ?_
  simp only [List.drop]
  generalize buf.getD 0 undef = nv at fin
  go_wp2
  refine wpN_of_wp ?_
  go_wp2
  exact bodyPost_ret (v := nv) (by simp [results, Tryd.results31, go_sem]) rfl fin.out

/-- take: the number of that time, whatever lies ready. -/
theorem DeskAt.take {w : World} {b : Nat} {c : Option Nat} {s : Dk} (hd : DeskAt w b c s) (t : Int) (t0 : 0 ≤ t) (t1 : t < 2199023255552) (hq : seqOf s t < 4096) :
    Calls Tryd.prog 31 #[.pointer (some ⟨b, 0, none⟩), .int .i64 t] w (TakePost w b c s t) := by
  by_cases ht : t = s.time
  · subst ht
    have hn : s.nxt < 4096 := by unfold seqOf at hq; rw [if_pos rfl] at hq; exact hq
    cases c with
    | none => exact take_nil hd
    | some k =>
      obtain ⟨_, made, _, _, buf, sn, rc, h1, _, _, _⟩ := id hd
      by_cases hp : 0 < buf.size
      · exact take_ready hd h1 hp
      · have e1 : buf = #[] := by simpa using hp
        subst e1
        exact take_empty hd h1 hn
  · exact take_other hd t t0 t1 ht

end Go.Proofs.YtdplffhieekfaaaDoor
