/-
  (*Desk).batchRefusal and (*Desk).Batch: what so many Next, one behind the other, would answer.
  Conditions: a desk in memory; a count that Batch takes.
-/
import Derived.Test.YtdplffhieekfaaaDoorRun
import Derived.Deep.OwnRows
namespace Go.Proofs.YtdplffhieekfaaaDoor
open Go.RowKit Go.Conc

theorem DeskAt.refuse {w : World} {b : Nat} {c : Option Nat} {s : Dk} (h : DeskAt w b c s) (t now : Int) (hn : now ≤ t) (hn0 : -9223372036854775808 ≤ now) (n : Nat) :
    Calls Tryd.prog 30 #[.pointer (some ⟨b, 0, none⟩), .int .i64 t, .int .i64 now] (w.drewN n) fun e w' => e = .returned (.int .i64 (errAt s now t)) ∧ w' = w.drewN n := by
  obtain ⟨ok, made, hm, hc, hr⟩ := h.drewN n
  exact refusal_any b t now s.to s.brw _ hc.c2 hc.c3 ok.b0 ok.b1 ok.t1 hn hn0

set_option maxRecDepth 100000 in
set_option maxHeartbeats 1000000 in
theorem DeskAt.batchRefusal {w : World} {b : Nat} {c : Option Nat} {s : Dk} (hd : DeskAt w b c s) (now : Int) (cnt : Nat) (hn0 : -9223372036854775808 ≤ now) (c0 : 1 ≤ cnt) (c1 : cnt ≤ 10000) :
    Calls Tryd.prog 78 #[.pointer (some ⟨b, 0, none⟩), .int .i64 now, .int .i64 cnt] w fun e w' => e = .returned (.int .i64 (batchErr s now cnt)) ∧ ∃ n, w' = w.drewN n := by
  have ht := hd.ntime now
  have hg := timeOf_ge s now
  have hq := seqOf_lt hd.ok now
  have hsq := fun n => (hd.drewN n).seq (timeOf s now)
  have hr := fun t (h : now ≤ t) n => hd.refuse t now h hn0 n
  have f0 := hd.ok.f0
  have t1 := hd.ok.t1
  have hb : Hid (∀ j : Nat, (j = 0 ∨ timeOf s now + j - 1 < lidOf s now) → (j = 0 ∨ 0 < (cnt : Int) - (4096 - seqOf s (timeOf s now)) - 4096 * (j - 1)) →
      (errAt s now (timeOf s now + j) ≠ 0 ∨ (cnt : Int) - (4096 - seqOf s (timeOf s now)) - 4096 * j ≤ 0) → errAt s now (timeOf s now + j) = batchErr s now cnt) := by
    intro j h1 h2 h3
    unfold batchErr
    by_cases he : errAt s now (timeOf s now + j) = 0
    · have h4 : (cnt : Int) - (4096 - seqOf s (timeOf s now)) - 4096 * j ≤ 0 := by
        rcases h3 with h3 | h3
        · exact absurd he h3
        · exact h3
      rw [he, if_pos]
      rw [errAt_zero] at he
      unfold timeAt
      omega
    · have h5 : ¬ timeOf s now + j < lidOf s now := fun h => he ((errAt_zero _ _ _).2 h)
      rw [if_neg]
      · congr 1; omega
      · unfold timeAt; omega
  have hlid : Hid (∀ t, errAt s now t = 0 ↔ t < lidOf s now) := errAt_zero s now
  have hlt : Hid (lidOf s now ≤ 2199023255552) := by show _ ≤ _; unfold lidOf; omega
  obtain ⟨T, hT⟩ : ∃ T, T = timeOf s now := ⟨_, rfl⟩
  rw [← hT] at ht hg hq hsq hb
  obtain ⟨q, hqq⟩ : ∃ q, q = seqOf s T := ⟨_, rfl⟩
  rw [← hqq] at hq hsq hb
  have hT0 : 0 ≤ T := by omega
  obtain ⟨hq0, hq1⟩ := hq
  obtain ⟨hg1, _, _⟩ := hg
  obtain ⟨M, hM⟩ : ∃ M, M = lidOf s now := ⟨_, rfl⟩
  rw [← hM] at hb hlid hlt
  clear hT hqq hM f0 t1
  generalize errAt s now = er at *
  generalize batchErr s now cnt = be at *
  clear hd
  go_enter Tryd.func78, Tryd.ntmps78
  go_wp2_with (first | (go_at_call 29; refine ht.mono ?_; rintro e w' ⟨rfl, m, rfl⟩) | (go_at_call 30; refine (hr T hg1 _).mono ?_; rintro e w' ⟨rfl, rfl⟩) | (go_at_call 59; refine (hsq _).mono ?_; rintro e w' ⟨rfl, m2, rfl⟩))
  go_loopw [7, 8, 9] (fun t e l W => ∃ j n : Nat, j ≤ 4 ∧ t = .int .i64 (T + j) ∧ e = .int .i64 (er (T + j)) ∧ l = .int .i64 ((cnt : Int) - (4096 - q) - 4096 * j) ∧ W = w.drewN n ∧ Hid ((j = 0 ∨ T + j - 1 < M) ∧ (j = 0 ∨ 0 < (cnt : Int) - (4096 - q) - 4096 * (j - 1))))
    (fun _ _ l _ => (intOf l + 8192).toNat)
  case atStart =>
    exact ⟨0, _, by omega, by simp, by simp, by simp, rfl, .inl rfl, .inl rfl⟩
  case round =>
    obtain ⟨j, n, hj4, rfl, rfl, rfl, rfl, hj⟩ := hrel
    obtain ⟨E, hE⟩ : ∃ E, E = er (T + j) := ⟨_, rfl⟩
    rw [← hE]
    have hE' : Hid (E = er (T + j)) := hE
    clear hE
    by_cases hl : 0 < (cnt : Int) - (4096 - q) - 4096 * j
    · by_cases he : E = 0
      · have heb : (E == 0) = true := by simpa using he
        have hlt2 : T + j < M := (hlid.out _).1 (by rw [← hE'.out]; exact he)
        have hM2 := hlt.out
        clear he
        go_wp2_with (first | (go_at_call 30; refine (hr (T + j + 1) (by omega) _).mono ?_; rintro e w' ⟨rfl, rfl⟩))
        have ej : ((j + 1 : Nat) : Int) = (j : Int) + 1 := by omega
        refine ⟨⟨j + 1, n, by omega, ?_, ?_, ?_, rfl, ?_, ?_⟩, by simp [intOf]; omega⟩
        · rw [ej, Int.add_assoc]
        · rw [ej, Int.add_assoc]
        · rw [ej]; exact congrArg _ (by omega)
        · exact .inr (by rw [ej]; omega)
        · exact .inr (by rw [ej]; omega)
      · have heb : (E == 0) = false := by simpa using he
        have hfin : Hid (E = be) := hE'.out.trans (hb.out j hj.out.1 hj.out.2 (.inl (by rw [← hE'.out]; exact he)))
        clear he
        go_wp2
        go_ret
        exact ⟨ret_int hfin.out, _, rfl⟩
    · have hfin : Hid (E = be) := hE'.out.trans (hb.out j hj.out.1 hj.out.2 (.inr (by omega)))
      go_wp2
      go_ret
      exact ⟨ret_int hfin.out, _, rfl⟩

/-- A row of numbers that the call made. -/
structure RowAt (w : World) (k n : Nat) (f : Nat → Int) : Prop where
  lt : k < w.heap.size
  cell : ∀ j, j < n → w.cell? ⟨k, j, none⟩ = some (.int .u64 (f j))
  fz : ∀ j, w.frozen? ⟨k, j, none⟩ = false

theorem rowElem : (Tryd.prog.info? 25).map (fun i => (i.zero, i.size, i.bytes)) = some (some (.int .u64 0), 1, 8) := by kernel_rfl

/-- The number at a place of the batch. -/
def numAt (s : Dk) (now : Int) (j : Nat) : Int := numOf (timeAt s now j) s.node (seqAt s now j)

/-- Between two rounds of Batch. -/
structure BatchAt (w W : World) (b k : Nat) (c : Option Nat) (s : Dk) (now : Int) (cnt i : Nat) : Prop where
  desk : ∃ c', (c' = c ∨ ∃ j, w.heap.size ≤ j ∧ c' = some j) ∧ DeskAt W b c' (s.run now i)
  keep : Keep (fun x => x = b ∨ c = some x) w W
  lt : k < W.heap.size
  made : ∀ j, j < i → W.cell? ⟨k, j, none⟩ = some (.int .u64 (numAt s now j))
  room : ∀ j, j < cnt → ∃ v, W.cell? ⟨k, j, none⟩ = some v
  fz : ∀ j, W.frozen? ⟨k, j, none⟩ = false

/-- One more number is taken. -/
theorem BatchAt.take {w W : World} {b k : Nat} {c : Option Nat} {s : Dk} {now : Int} {cnt i : Nat} (h : BatchAt w W b k c s now cnt i) (ok : s.Ok) (hb : b < w.heap.size) (hk : w.heap.size ≤ k) (hi : i < cnt) (hl : timeAt s now (cnt - 1) < lidOf s now) (n : Nat) :
    Calls Tryd.prog 31 #[.pointer (some ⟨b, 0, none⟩), .int .i64 (timeAt s now i)] (W.drewN n) fun e W' => e = .returned (.int .u64 (numAt s now i)) ∧ (∃ v, W'.cell? ⟨k, i, none⟩ = some v) ∧ W'.frozen? ⟨k, i, none⟩ = false ∧
      Hid (BatchAt w (W'.setCell ⟨k, i, none⟩ (.int .u64 (numAt s now i))) b k c s now cnt (i + 1)) := by
  obtain ⟨⟨c', hc', hd⟩, keep, lt, made, room, fz⟩ := h
  obtain ⟨r1, r2⟩ := run_at ok now i
  have hm := timeAt_mono s now (show i ≤ cnt - 1 by omega)
  have hq := seqOf_lt hd.ok now
  have hg := timeOf_ge (s.run now i) now
  have hok := hd.ok
  rw [r2] at hq
  rw [r1] at hg
  have h1 := ok.t1
  have h2 := hok.f0
  have hlid : lidOf s now ≤ s.to := by unfold lidOf; omega
  have hcell0 : ∃ v, W.cell? ⟨b, 0, none⟩ = some v := by obtain ⟨_, made, _, hcl, _⟩ := hd; exact ⟨_, hcl.c0⟩
  have hnk : c' ≠ some k := by
    rintro rfl
    obtain ⟨_, made, _, hcl, buf, sn, rc, hch, _⟩ := hd
    obtain ⟨v, hv⟩ := room i hi
    exact cells_not_chan hv hch rfl
  have hseq : seqOf (s.run now i) (timeAt s now i) = seqAt s now i := by rw [← r1]; exact r2
  have hnode := (run_same s now i).1
  refine ((hd.drewN n).take (timeAt s now i) (by omega) (by omega) (by rw [hseq]; omega)).mono ?_
  rintro e W' ⟨rfl, c'', hc'', hd', hkp⟩
  have hkb : k ≠ b := by omega
  have hS : ¬ (k = b ∨ c' = some k) := by rintro (h | h); exact hkb h; exact hnk h
  have hcell : ∀ j, W'.cell? ⟨k, j, none⟩ = W.cell? ⟨k, j, none⟩ := fun j => hkp.cell (p := ⟨k, j, none⟩) lt hS
  have hfro : ∀ j, W'.frozen? ⟨k, j, none⟩ = W.frozen? ⟨k, j, none⟩ := fun j => hkp.frozen (p := ⟨k, j, none⟩) lt hS
  have hnum : numOf (timeAt s now i) (s.run now i).node (seqOf (s.run now i) (timeAt s now i)) = numAt s now i := by rw [hnode, hseq]; rfl
  have hkW' : k < W'.heap.size := Nat.lt_of_lt_of_le lt hkp.size
  obtain ⟨v, hv⟩ := room i hi
  have hvW : W'.cell? ⟨k, i, none⟩ = some v := (hcell i).trans hv
  refine ⟨by rw [hnum], ⟨v, hvW⟩, (hfro i).trans (fz i), ⟨c'', ?_, ?_⟩, ?_, ?_, ?_, ?_, ?_⟩
  · rcases hc'' with rfl | ⟨j, hj, rfl⟩
    · exact hc'
    · exact .inr ⟨j, Nat.le_trans keep.size hj, rfl⟩
  · have e1 : s.run now (i + 1) = { s.run now i with time := timeAt s now i, nxt := seqOf (s.run now i) (timeAt s now i) + 1 } := by
      show (s.run now i).stepT now = _
      unfold Dk.stepT
      rw [r1]
    rw [e1]
    refine hd'.keep (S := fun x => x = k) ((Keep.refl (fun x => x = k) W').setCell (p := ⟨k, i, none⟩) (fun _ => rfl) _) (fun h => hkb h.symm) ?_
    intro j hj hjk
    subst hjk
    obtain ⟨_, made, _, hcl, hrd⟩ := hd'
    rw [hj] at hrd
    obtain ⟨buf, sn, rc, hch, _⟩ := hrd
    exact cells_not_chan hvW hch rfl
  · have k1 : Keep (fun x => x = b ∨ c = some x) w W' := (keep.drewN n).trans' hkp (fun x hx hs => by
      rcases hs with hs | hs
      · exact .inl hs
      · rcases hc' with rfl | ⟨j, hj, hj2⟩
        · exact .inr hs
        · rw [hj2] at hs; cases hs; omega)
    exact k1.setCell (p := ⟨k, i, none⟩) (fun h => by have : k < w.heap.size := h; omega) _
  · simpa [World.setCell] using hkW'
  · intro j hj
    by_cases hji : j = i
    · subst hji; exact World.cell?_setCell_same _ _ _ hvW
    · rw [World.cell?_setCell_other _ ⟨k, i, none⟩ ⟨k, j, none⟩ _ (by simp)]
      exact (hcell j).trans (made j (by omega))
  · intro j hj
    by_cases hji : j = i
    · subst hji; exact ⟨_, World.cell?_setCell_same _ _ _ hvW⟩
    · obtain ⟨u, hu⟩ := room j hj
      exact ⟨u, by rw [World.cell?_setCell_other _ ⟨k, i, none⟩ ⟨k, j, none⟩ _ (by simp)]; exact (hcell j).trans hu⟩
  · intro j
    rw [World.frozen?_setCell]; exact (hfro j).trans (fz j)

/-- Behind the make. -/
theorem BatchAt.start {w : World} {b : Nat} {c : Option Nat} {s : Dk} (hd : DeskAt w b c s) (now : Int) (cnt n : Nat) :
    BatchAt w ((w.drewN n).alloc (.cells (madeCells #[.int .u64 0] cnt) 25)) b w.heap.size c s now cnt 0 := by
  have hc := fun o => cell_alloc_new (w.drewN n) (madeCells #[.int .u64 0] cnt) 25 o
  refine ⟨⟨c, .inl rfl, ?_⟩, ((Keep.refl _ w).drewN n).alloc _, ?_, fun j hj => absurd hj (by omega), fun j hj => ?_, fun j => (hc j).2⟩
  · exact (hd.drewN n).below ((Below.refl _ (w.drewN n)).alloc (Nat.le_refl _) _)
  · simp
  · have hs : j < (madeCells #[.int .u64 0] cnt).size := by rw [size_madeCells]; exact hj
    exact ⟨(madeCells #[.int .u64 0] cnt)[j], (hc j).1.trans (by simp [hs])⟩

set_option maxHeartbeats 400000 in
theorem batch_count (b : Nat) (now cnt : Int) (w : World) (h : cnt < 1 ∨ 10000 < cnt) :
    Calls Tryd.prog 48 #[.pointer (some ⟨b, 0, none⟩), .int .i64 now, .int .i64 cnt] w fun e w' => e = .returned (.tuple #[.slice none 0 0, .int .i64 9]) ∧ w' = w := by
  by_cases h1 : cnt < 1
  · clear h
    go_enter Tryd.func48, Tryd.ntmps48
    go_wp2
    go_ret2
    exact ⟨rfl, rfl⟩
  · have h2 : 10000 < cnt := by omega
    clear h
    go_enter Tryd.func48, Tryd.ntmps48
    go_wp2
    go_ret2
    exact ⟨rfl, rfl⟩

set_option maxHeartbeats 400000 in
theorem DeskAt.batch_no {w : World} {b : Nat} {c : Option Nat} {s : Dk} (hd : DeskAt w b c s) (now : Int) (cnt : Nat) (hn0 : -9223372036854775808 ≤ now) (c0 : 1 ≤ cnt) (c1 : cnt ≤ 10000) (he : batchErr s now cnt ≠ 0) :
    Calls Tryd.prog 48 #[.pointer (some ⟨b, 0, none⟩), .int .i64 now, .int .i64 cnt] w fun e w' => e = .returned (.tuple #[.slice none 0 0, .int .i64 (batchErr s now cnt)]) ∧ ∃ n, w' = w.drewN n := by
  have hr := hd.batchRefusal now cnt hn0 c0 c1
  generalize batchErr s now cnt = er at *
  have he' : (er != 0) = true := by simpa using he
  clear hd he
  go_enter Tryd.func48, Tryd.ntmps48
  go_wp2_with (go_at_call 78; refine hr.mono ?_; rintro e w' ⟨rfl, m, rfl⟩)
  go_ret2
  exact ⟨rfl, _, rfl⟩

/-- What Batch owes where it gives. -/
def BatchPost (w : World) (b : Nat) (c : Option Nat) (s : Dk) (now : Int) (cnt : Nat) (e : Ending) (w' : World) : Prop :=
  ∃ k, w.heap.size ≤ k ∧ e = .returned (.tuple #[.slice (some ⟨k, 0, none⟩) cnt cnt, .int .i64 0]) ∧ RowAt w' k cnt (numAt s now) ∧
    (∃ c', (c' = c ∨ ∃ j, w.heap.size ≤ j ∧ c' = some j) ∧ DeskAt w' b c' { s.run now cnt with given := s.given + cnt }) ∧ Keep (fun x => x = b ∨ c = some x) w w'

set_option maxRecDepth 100000 in
set_option maxHeartbeats 1000000 in
theorem DeskAt.batch_yes {w : World} {b : Nat} {c : Option Nat} {s : Dk} (hd : DeskAt w b c s) (now : Int) (cnt : Nat) (hn0 : -9223372036854775808 ≤ now) (c0 : 1 ≤ cnt) (c1 : cnt ≤ 10000) (hl : timeAt s now (cnt - 1) < lidOf s now) (g0 : 0 ≤ s.given) (g1 : s.given + cnt ≤ 9223372036854775807) :
    Calls Tryd.prog 48 #[.pointer (some ⟨b, 0, none⟩), .int .i64 now, .int .i64 cnt] w (BatchPost w b c s now cnt) := by
  have hr := hd.batchRefusal now cnt hn0 c0 c1
  rw [show batchErr s now cnt = 0 by unfold batchErr; rw [if_pos hl]] at hr
  have hmk := run_make_row' (P := Tryd.prog) 40 25 (.int .u64 0) 8 Tryd.underlying40 rowElem rfl .i64 .i64 cnt (by omega) (by omega)
  have hstart := fun n => BatchAt.start hd now cnt n
  have hbs : b < w.heap.size := by obtain ⟨_, made, _, hcl, _⟩ := hd; exact block_lt_of_cell hcl.c0
  have hok := hd.ok
  have hst : Hid _ := hstart
  clear hstart hd
  have hc1 : decide ((cnt : Int) < 1) = false := by simp; omega
  have hc2 : decide ((10000 : Int) < cnt) = false := by simp; omega
  go_enter Tryd.func48, Tryd.ntmps48
  go_wp2_with (go_at_call 78; refine hr.mono ?_; rintro e w' ⟨rfl, m, rfl⟩)
  go_loopw [28] (fun i W => ∃ j : Nat, j ≤ cnt ∧ i = .int .i64 j ∧ Hid (BatchAt w W b w.heap.size c s now cnt j)) (fun i _ => cnt - (intOf i).toNat)
  case atStart => exact ⟨0, Nat.zero_le _, rfl, hst.out m⟩
  case round =>
    obtain ⟨j, hj, rfl, hB⟩ := hrel
    clear hst hmk hr
    by_cases hlt : j < cnt
    · have hnt : ∃ c', DeskAt wr b c' (s.run now j) := by obtain ⟨⟨c', _, h⟩, _⟩ := hB.out; exact ⟨c', h⟩
      obtain ⟨c', hdj⟩ := hnt
      have ht := hdj.ntime now
      rw [(run_at hok now j).1] at ht
      have htk := fun n => hB.out.take hok hbs (Nat.le_refl _) hlt hl n
      clear hdj hB
      generalize timeAt s now j = tj at *
      generalize numAt s now j = nv at *
      have hl' : Hid _ := hl
      clear hl
      go_wp2_with (first | (go_at_call 29; refine ht.mono ?_; rintro e w' ⟨rfl, m2, rfl⟩) | (go_at_call 31; refine (htk _).mono ?_; rintro e W' ⟨rfl, ⟨v, hv⟩, hfz, hB2⟩))
      exact ⟨⟨j + 1, by omega, by go_num, hB2⟩, by simp [intOf]; omega⟩
    · have hjc : j = cnt := by omega
      subst hjc
      obtain ⟨⟨c', hc', hd⟩, keep, lt, made, room, fz⟩ := hB.out
      have hgiv := (run_same s now j).2.2.2.2
      have hcl : wr.cell? ⟨b, 7, none⟩ = some (.int .i64 s.given) ∧ wr.frozen? ⟨b, 7, none⟩ = false := by
        obtain ⟨_, md, _, hcl, _⟩ := hd
        exact ⟨by rw [hcl.c7, hgiv], hcl.fz 7⟩
      have hfin : Hid (BatchPost w b c s now j (.returned (.tuple #[.slice (some ⟨w.heap.size, 0, none⟩) j j, .int .i64 0])) (wr.setCell ⟨b, 7, none⟩ (.int .i64 (s.given + j)))) := by
        have hkb : w.heap.size ≠ b := by omega
        refine ⟨w.heap.size, Nat.le_refl _, rfl, ⟨by simpa [World.setCell] using lt, fun i hi => ?_, fun i => ?_⟩, ⟨c', hc', ?_⟩, keep.setCell (p := ⟨b, 7, none⟩) (fun _ => .inl rfl) _⟩
        · rw [World.cell?_setCell_other _ ⟨b, 7, none⟩ ⟨w.heap.size, i, none⟩ _ (by simp)]; exact made i hi
        · rw [World.frozen?_setCell]; exact fz i
        · exact hd.count (s.given + j)
      obtain ⟨hc7, hz7⟩ := hcl
      clear hd keep lt made room fz hB hgiv hc'
      go_wp2_with (go_at_call 32; refine (add_any _ _ _ _ _ hc7 hz7 g0 (by omega) (by omega)).mono ?_; rintro e w2 ⟨rfl, rfl⟩)
      go_ret2
      exact hfin.out

end Go.Proofs.YtdplffhieekfaaaDoor
