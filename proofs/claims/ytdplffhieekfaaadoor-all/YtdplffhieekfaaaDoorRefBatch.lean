/-
  The document's Batch.
  Conditions: the desk's cells are known.
-/
import Derived.Test.YtdplffhieekfaaaDoorRenewAt
import Derived.Deep.DeepAppendWide
import Derived.OwnWalk
namespace Go.Proofs.YtdplffhieekfaaaDoor
open Go.RowKit

/-- The desk behind so many numbers, counted. -/
def Dk.runG (s : Dk) (now : Int) (k : Nat) : Dk := { s.run now k with given := s.given + k }

theorem runG_step (s : Dk) (now : Int) (k : Nat) : (s.runG now k).step now = s.runG now (k + 1) := by
  show Dk.mk _ _ _ _ _ _ _ = Dk.mk _ _ _ _ _ _ _
  congr 1
  show s.given + (k : Int) + 1 = s.given + ((k + 1 : Nat) : Int)
  omega

theorem runG_err {s : Dk} (ok : s.Ok) (now : Int) (k : Nat) : errOf (s.runG now k) now = errAt s now (timeAt s now k) := by
  obtain ⟨r1, _⟩ := run_at ok now k
  obtain ⟨_, _, e3, e4, _⟩ := run_same s now k
  show (if (s.run now k).to ≤ timeOf (s.run now k) now then 7 else if now + (s.run now k).brw < timeOf (s.run now k) now then 8 else 0) = _
  rw [r1, e3, e4]
  rfl

theorem runG_fresh {s : Dk} (ok : s.Ok) (hf : s.Fresh) (now : Int) (k : Nat) : (s.runG now k).Fresh := by
  cases k with
  | zero => exact hf
  | succ k =>
    intro h
    obtain ⟨_, r2⟩ := run_at ok now k
    have : seqOf (s.run now k) (timeOf (s.run now k) now) + 1 = 0 := h
    rw [r2] at this
    unfold seqAt at this
    have := seqOf_lt ok now
    omega

theorem timeAt_zero {s : Dk} (ok : s.Ok) (now : Int) : timeAt s now 0 = timeOf s now := by
  have := seqOf_lt ok now
  unfold timeAt
  omega

theorem batchErr_first {s : Dk} (ok : s.Ok) {now : Int} {n k : Nat} (hk : k < n) (hb : ∀ j, j < k → timeAt s now j < lidOf s now) (hn : ¬ timeAt s now k < lidOf s now) : errAt s now (timeAt s now k) = batchErr s now n := by
  have hm := timeAt_mono s now (show k ≤ n - 1 by omega)
  have hz := timeAt_zero ok now
  unfold batchErr
  rw [if_neg (by omega)]
  congr 1
  cases k with
  | zero => omega
  | succ k =>
    have h1 := hb k (by omega)
    have h2 : timeAt s now (k + 1) ≤ timeAt s now k + 1 := by unfold timeAt; omega
    have h3 := timeAt_mono s now (Nat.zero_le k)
    omega

/-- The numbers, as cells. -/
def numCells (s : Dk) (now : Int) (k : Nat) : List Value := (List.range k).map fun j => .int .u64 (numAt s now j)

theorem numCells_succ (s : Dk) (now : Int) (k : Nat) : numCells s now (k + 1) = numCells s now k ++ [.int .u64 (numAt s now k)] := by
  unfold numCells
  rw [List.range_succ, List.map_append]
  rfl

/-- Between two rounds of the document's Batch. -/
structure RBatch (w W : World) (s : Dk) (now : Int) (k : Nat) (l : Value) : Prop where
  bel : Below w.heap.size w W
  lt : w.heap.size < W.heap.size
  ref : RefAt W w.heap.size (s.runG now k)
  own : W.ownsRow (w.heap.size + 1) 25 1 l k (numCells s now k)
  good : ∀ j, j < k → timeAt s now j < lidOf s now

theorem owns_keep {S : Nat → Prop} {w w' : World} {base : Nat} {e : TypeId} {size : Nat} {v : Value} {n : Nat} {xs : List Value} (h : w.ownsRow base e size v n xs) (hk : Keep S w w') (hS : ∀ k, base ≤ k → ¬ S k) : w'.ownsRow base e size v n xs := by
  obtain ⟨hl, hh⟩ := h
  refine ⟨hl, ?_⟩
  rcases hh with hh | ⟨g, cap, cur, e1, e2, e3, e4⟩
  · exact Or.inl hh
  · have hlt : g < w.heap.size := by
      rcases Nat.lt_or_ge g w.heap.size with h | h
      · exact h
      · rw [Array.getElem?_eq_none h] at e3; cases e3
    exact Or.inr ⟨g, cap, cur, e1, e2, (hk.block g hlt (hS g e2)).trans e3, e4⟩

theorem keep_grown {w w' : World} {row : Option Nat} (hg : w.grownBy w' row) : Keep (fun i => some i = row) w w' :=
  ⟨hg.os, hg.tape, hg.output, hg.size, fun k hk hs => hg.block k hk hs⟩

/-- A round's number is laid behind the others. -/
theorem RBatch.snoc {w wr w1 w2 : World} {s : Dk} {now : Int} {k : Nat} {l l' : Value} {T : TypeId} {cs : Array Value} (h : RBatch w wr s now k l) (href : RefAt w1 w.heap.size (s.runG now (k + 1))) (hkp : Keep (fun i => i = w.heap.size) wr w1)
    (hown' : w2.ownsRow (w.heap.size + 1) 25 1 l' (k + 1) (numCells s now k ++ [.int .u64 (numAt s now k)])) (hgr : (w1.alloc (.cells cs T)).grownBy w2 l.ownBlock) (hgd : timeAt s now k < lidOf s now) : RBatch w w2 s now (k + 1) l' := by
  have hrow : ∀ i, some i = l.ownBlock → w.heap.size + 1 ≤ i := fun i hi => (h.own.lt i hi.symm).1
  have hk2 : Keep (fun i => some i = l.ownBlock) w1 w2 := (Keep.of_below ((Below.refl _ w1).alloc (Nat.le_refl _) _)).trans' (keep_grown hgr) (fun _ _ h => h)
  have hk3 : Keep (fun i => w.heap.size ≤ i) wr w2 := (hkp.mono (T := fun i => w.heap.size ≤ i) (fun i _ e => by show _ ≤ i; omega)).trans (hk2.mono (fun i _ e => by have := hrow i e; show _ ≤ i; omega))
  refine ⟨h.bel.trans (hk3.below (Nat.le_of_lt h.lt) (fun i hi hx => by have : w.heap.size ≤ i := hx; omega)), Nat.lt_of_lt_of_le h.lt hk3.size, ?_, ?_, ?_⟩
  · exact href.keep hk2 (fun e => by have := hrow _ e; omega)
  · rw [numCells_succ]; exact hown'
  · intro j hj
    by_cases hjk : j = k
    · rw [hjk]; exact hgd
    · exact h.good j (by omega)

/-- All cells are written over. -/
theorem RefAt.over {w : World} {b : Nat} {s : Dk} (h : RefAt w b s) (s' : Dk) (x0 x1 x2 x3 x4 x5 x6 : Int) (e0 : s'.node = x0) (e1 : s'.frm = x1) (e2 : s'.to = x2) (e3 : s'.brw = x3) (e4 : rTime s' = x4) (e5 : rSeq s' = x5) (e6 : s'.given = x6) :
    RefAt (((((((w.setCell ⟨b, 0, none⟩ (.int .i64 x0)).setCell ⟨b, 1, none⟩ (.int .i64 x1)).setCell ⟨b, 2, none⟩ (.int .i64 x2)).setCell ⟨b, 3, none⟩ (.int .i64 x3)).setCell ⟨b, 4, none⟩ (.int .i64 x4)).setCell ⟨b, 5, none⟩ (.int .i64 x5)).setCell ⟨b, 6, none⟩ (.int .i64 x6)) b s' ∧
      Keep (fun i => i = b) w (((((((w.setCell ⟨b, 0, none⟩ (.int .i64 x0)).setCell ⟨b, 1, none⟩ (.int .i64 x1)).setCell ⟨b, 2, none⟩ (.int .i64 x2)).setCell ⟨b, 3, none⟩ (.int .i64 x3)).setCell ⟨b, 4, none⟩ (.int .i64 x4)).setCell ⟨b, 5, none⟩ (.int .i64 x5)).setCell ⟨b, 6, none⟩ (.int .i64 x6)) := by
  obtain ⟨r0, r1, r2, r3, rf, rk⟩ := three_cells (.int .i64 x0) (.int .i64 x1) (.int .i64 x2) h.c0 h.c1 h.c2
  generalize ((w.setCell ⟨b, 0, none⟩ (.int .i64 x0)).setCell ⟨b, 1, none⟩ (.int .i64 x1)).setCell ⟨b, 2, none⟩ (.int .i64 x2) = w3 at *
  have ot : ∀ j, j ≠ 3 → (w3.setCell ⟨b, 3, none⟩ (.int .i64 x3)).cell? ⟨b, j, none⟩ = w3.cell? ⟨b, j, none⟩ := fun j _ => World.cell?_setCell_other _ ⟨b, 3, none⟩ ⟨b, j, none⟩ _ (by simp)
  have hk4 := rk.setCell (p := ⟨b, 3, none⟩) (fun _ => rfl) (.int .i64 x3)
  have h4 : RefAt (w3.setCell ⟨b, 3, none⟩ (.int .i64 x3)) b { s with node := x0, frm := x1, to := x2, brw := x3 } :=
    ⟨(ot 0 (by omega)).trans r0, (ot 1 (by omega)).trans r1, (ot 2 (by omega)).trans r2, World.cell?_setCell_same _ _ _ ((r3 3 (by omega)).trans h.c3), (ot 4 (by omega)).trans ((r3 4 (by omega)).trans h.c4), (ot 5 (by omega)).trans ((r3 5 (by omega)).trans h.c5), (ot 6 (by omega)).trans ((r3 6 (by omega)).trans h.c6), fun o => by rw [World.frozen?_setCell, rf]; exact h.fz o⟩
  obtain ⟨g1, g2⟩ := h4.stepped x4 x5 x6 s' e0 e1 e2 e3 e4 e5 e6 0
  exact ⟨g1, hk4.trans g2⟩

theorem u64_info : (Tryd.prog.info? 25).map (fun i => (i.zero, i.size, i.bytes)) = some (some (.int .u64 0), 1, 8) := by kernel_rfl

set_option maxRecDepth 100000 in
set_option maxHeartbeats 2000000 in
theorem RefAt.batch_any {w : World} {b : Nat} {s : Dk} (h : RefAt w b s) (ok : s.Ok) (hf : s.Fresh) (now : Int) (cnt : Nat) (n0 : -9223372036854775808 ≤ now) (n1 : now ≤ 9223372036854775807) (c0 : 1 ≤ cnt) (c1 : cnt ≤ 10000) (g0 : 0 ≤ s.given) (g1 : s.given + cnt ≤ 9223372036854775807) :
    Calls Tryd.prog 49 #[.pointer (some ⟨b, 0, none⟩), .int .i64 now, .int .i64 cnt] w fun e w' =>
      (batchErr s now cnt ≠ 0 ∧ e = .returned (.tuple #[.slice none 0 0, .int .i64 (batchErr s now cnt)]) ∧ Below w.heap.size w w') ∨
      (timeAt s now (cnt - 1) < lidOf s now ∧ ∃ l, e = .returned (.tuple #[l, .int .i64 0]) ∧ w'.ownsRow (w.heap.size + 1) 25 1 l cnt (numCells s now cnt) ∧ RefAt w' b (s.runG now cnt) ∧ Keep (fun i => i = b) w w') := by
  obtain ⟨i0, hi, hz0, hz1, hz2⟩ := info_parts u64_info
  have hblt : b < w.heap.size := block_lt_of_cell h.c0
  have d0 := h.c0
  have d1 := h.c1
  have d2 := h.c2
  have d3 := h.c3
  have d4 := h.c4
  have d5 := h.c5
  have d6 := h.c6
  have hh : Hid _ := h
  have hok : Hid _ := ok
  have hfr : Hid _ := hf
  have hg : Hid (0 ≤ s.given ∧ s.given + cnt ≤ 9223372036854775807) := ⟨g0, g1⟩
  clear h ok hf g0 g1
  go_enter Tryd.func49, Tryd.ntmps49
  go_wp2_with fail
  go_loopw [9, 10] (fun l i W => ∃ k : Nat, k ≤ cnt ∧ i = .int .i64 k ∧ Hid (RBatch w W s now k l)) (fun _ i _ => cnt - (intOf i).toNat)
  case atStart =>
    have hc := cell_alloc_new w #[.int .i64 s.node, .int .i64 s.frm, .int .i64 s.to, .int .i64 s.brw, .int .i64 (rTime s), .int .i64 (rSeq s), .int .i64 s.given] 93
    refine ⟨0, by omega, rfl, (Below.refl _ w).alloc (Nat.le_refl _) _, by simp, ?_, World.ownsRow_nil _ _ _ _, fun j hj => absurd hj (by omega)⟩
    refine ⟨(hc 0).1, (hc 1).1, (hc 2).1, (hc 3).1, (hc 4).1, (hc 5).1, ?_, fun o => (hc o).2⟩
    rw [(hc 6).1]
    show some (Value.int .i64 s.given) = some (.int .i64 (s.given + ((0 : Nat) : Int)))
    congr 2
    omega
  case round =>
    obtain ⟨k, hk, rfl, hR⟩ := hrel
    clear d0 d1 d2 d3 d4 d5 d6
    obtain ⟨gg0, gg1⟩ := hg.out
    by_cases hlt : k < cnt
    · have okk : (s.runG now k).Ok := by
        have := run_ok hok.out now k (by
          by_cases hk0 : k = 0
          · exact Or.inl hk0
          · exact Or.inr (hR.out.good (k - 1) (by omega)))
        exact ⟨this.n0, this.n1, this.f0, this.ft, this.t1, this.b0, this.b1, this.m0, this.m1, this.x0, this.x1⟩
      have hfk := runG_fresh hok.out hfr.out now k
      have hek := runG_err hok.out now k
      by_cases hgood : timeAt s now k < lidOf s now
      · have he0 : errOf (s.runG now k) now = 0 := by rw [hek, errAt_zero]; exact hgood
        have hnx := hR.out.ref.next_yes okk hfk now n0 n1 he0 (by show 0 ≤ s.given + (k : Int); omega) (by show s.given + (k : Int) < _; omega)
        obtain ⟨r1, r2⟩ := run_at hok.out now k
        have e1 : timeOf (s.runG now k) now = timeAt s now k := r1
        have e2 : seqOf (s.runG now k) (timeOf (s.runG now k) now) = seqAt s now k := r2
        have e3 : (s.runG now k).node = s.node := (run_same s now k).1
        rw [e2, e1, e3, runG_step] at hnx
        have hgd : Hid _ := hgood
        clear hek he0 okk hfk r1 r2 e1 e2 e3 gg0 gg1 hgood
        go_wp2_with fail
        refine hnx.mono ?_
        rintro e w1 ⟨rfl, href, hkp⟩
        have href' : Hid _ := href
        have hkp' : Hid _ := hkp
        have hN : numOf (timeAt s now k) s.node (seqAt s now k) = numAt s now k := rfl
        rw [hN]
        have hown : Hid (w1.ownsRow (w.heap.size + 1) 25 1 u9 k (numCells s now k)) := owns_keep hR.out.own hkp (fun i hi e => by omega)
        have hsz : Hid (w.heap.size + 1 ≤ w1.heap.size) := by have := hkp.size; have := hR.out.lt; show _ ≤ _; omega
        clear href hkp hnx hN
        go_wp2_with (first
          | (at_builtin; refine wpList_append_own_wide _ rfl _ _ 40 rfl (w.heap.size + 1) 25 i0 (.int .u64 0) 1 8 Tryd.underlying40 hi hz0 hz1 hz2 rfl (by decide) _ _ _ rfl (hown.out.alloc _) ⟨w1.heap.size, 0, none⟩ 1 1 [.int .u64 (numAt s now k)] rfl rfl ?c1 ?c2 ?c3 ?c4 ?c5 ?_)
          | go_in)
        case c1 =>
          intro j u hj
          match j, hj with
          | 0, hj => simp at hj; subst hj; simp [Addr.add]
        case c2 => intro u hu; simp at hu; subst hu; rfl
        case c3 => unfold maxLen; omega
        case c4 => omega
        case c5 => have := hsz.out; simp; omega
        · intro v' w2 hown' hgrow _
          have hR2 : Hid (RBatch w w2 s now (k + 1) v') := hR.out.snoc href'.out hkp'.out hown' hgrow hgd.out
          clear hown' hgrow
          go_wp2
          exact ⟨⟨k + 1, by omega, by go_num, hR2⟩, by simp [intOf]; omega⟩
      · have herr : errAt s now (timeAt s now k) = batchErr s now cnt := batchErr_first hok.out hlt hR.out.good hgood
        have hne : errOf (s.runG now k) now ≠ 0 := by rw [hek]; intro h0; rw [errAt_zero] at h0; exact hgood h0
        have hnx := hR.out.ref.next_no okk hfk now n0 n1 hne
        rw [hek, herr] at hnx
        rw [hek, herr] at hne
        have hneb : (batchErr s now cnt != 0) = true := by simpa using hne
        have hne' : Hid _ := hne
        clear hek okk hfk herr hne gg0 gg1 hgood
        have hbel : Hid _ := hR.out.bel
        obtain ⟨er, her⟩ : ∃ er, er = batchErr s now cnt := ⟨_, rfl⟩
        rw [← her] at hnx hneb hne'
        have her' : Hid _ := her
        clear her hR
        go_wp2_with fail
        refine hnx.mono ?_
        rintro e w1 ⟨rfl, rfl⟩
        clear hnx
        go_wp2
        go_ret2
        rw [← her'.out]
        exact Or.inl ⟨hne'.out, rfl, hbel.out⟩
    · have hkc : k = cnt := by omega
      subst hkc
      obtain ⟨q0, q1, q2, q3, q4, q5, q6, qf⟩ := hR.out.ref
      obtain ⟨p0, p1, p2, p3, p4, p5, p6, pf⟩ := hh.out.below hR.out.bel
      have z0 := pf 0
      have z1 := pf 1
      have z2 := pf 2
      have z3 := pf 3
      have z4 := pf 4
      have z5 := pf 5
      have z6 := pf 6
      clear pf qf gg0 gg1
      have hbw : b ≠ w.heap.size := by omega
      generalize hx0 : (s.runG now k).node = x0 at *
      generalize hx1 : (s.runG now k).frm = x1 at *
      generalize hx2 : (s.runG now k).to = x2 at *
      generalize hx3 : (s.runG now k).brw = x3 at *
      generalize hx4 : rTime (s.runG now k) = x4 at *
      generalize hx5 : rSeq (s.runG now k) = x5 at *
      generalize hx6 : (s.runG now k).given = x6 at *
      have hx : Hid _ := (⟨hx0, hx1, hx2, hx3, hx4, hx5, hx6⟩ : _ ∧ _ ∧ _ ∧ _ ∧ _ ∧ _ ∧ _)
      clear hx0 hx1 hx2 hx3 hx4 hx5 hx6
      go_wp2
      go_ret2
      obtain ⟨hx0, hx1, hx2, hx3, hx4, hx5, hx6⟩ := hx.out
      refine Or.inr ⟨hR.out.good (k - 1) (by omega), u9, rfl, ?_⟩
      obtain ⟨f1, f2⟩ := (hh.out.below hR.out.bel).over (s.runG now k) x0 x1 x2 x3 x4 x5 x6 hx0 hx1 hx2 hx3 hx4 hx5 hx6
      exact ⟨owns_keep hR.out.own f2 (fun i hi e => by omega), f1, (Keep.of_below hR.out.bel).trans' f2 (fun _ _ h => h)⟩
end Go.Proofs.YtdplffhieekfaaaDoor
