/-
  A region that draws its order: all its operations but the last one only read; the last one, which waits for all others, writes.
-/
import Derived.Test.YtdplffhieekfaaaComm
import Derived.BigQuiet
namespace Go.Proofs.Ytdplffhieekfaaa
open Go.RowKit Go.Conc

section
variable {P : Program} {C : World → Prop} {Q : Exit → Act → World → Prop}

theorem wpOps_op {ops : Array Oper} {a : Act} {w : World} {i : Nat} {rest : List Nat} {o : Oper} (ho : ops[i]? = some o) (hw : Region.wanted o (yielded ops a.tmps) = true)
    (h : o.wp P a w (wpOps P ops Q rest) Q) : wpOps P ops Q (i :: rest) a w := by
  simp only [wpOps, ho, hw, if_true]
  exact Or.inl h

theorem wpOps_skip {ops : Array Oper} {a : Act} {w : World} {i : Nat} {rest : List Nat} {o : Oper} (ho : ops[i]? = some o) (hw : Region.wanted o (yielded ops a.tmps) = false)
    (h : wpOps P ops Q rest (a.put o.dst undef) w) : wpOps P ops Q (i :: rest) a w := by
  simp only [wpOps, ho, hw]
  exact h

theorem wpOps_quiet_last {ops ops' : Array Oper} {n : Nat} {o : Oper} {R : Act → Prop} (hL : LastAt ops ops' n o) (hg : o.guard = none) (hd : o.dst = none)
    (hs : Region.sinkB .any ops n = true) (hb : backB ops = true)
    (hend : ∀ a w, C w → R a → wpOps P ops Q [n] a w) :
    ∀ (fuel t : Nat) (listed : Array Bool) (a : Act) (w : World), C w → HeadInv .any ops n listed → wpAnyQ P .any ops' C R fuel listed a →
      wpOps P ops Q (Region.linearise.go .any ops fuel t listed []) a w := by
  have hnS : n < ops.size := by rw [hL.size]; omega
  have hne : ∀ listed, HeadInv .any ops n listed → Region.ready .any ops listed ≠ [] := by
    intro listed inv h0
    have h1 := ready_nil hb inv.size h0 n hnS
    have h2 := getD_both (inv.tail n (Nat.le_refl _) hnS)
    rw [h1] at h2; cases h2
  intro fuel
  induction fuel with
  | zero =>
    intro t listed a w _ inv h
    have h1 := h.1
    rw [hL.ready] at h1
    exact absurd h1 (hne _ inv)
  | succ fuel ih =>
    intro t listed a w hC inv h
    obtain ⟨_, h2⟩ := h
    simp only [Region.linearise.go]
    change wpOps P ops Q (match (Region.ready .any ops listed)[t % (Region.ready .any ops listed).length]? with
      | some i => Region.linearise.go .any ops fuel (t / (Region.ready .any ops listed).length) (listed.setIfInBounds i true) [i]
      | none => [].reverse) a w
    cases hi : (Region.ready .any ops listed)[t % (Region.ready .any ops listed).length]? with
    | none =>
      exfalso
      refine hne _ inv ?_
      cases hr : Region.ready .any ops listed with
      | nil => rfl
      | cons x xs =>
        rw [hr] at hi
        have hlt : t % (x :: xs).length < (x :: xs).length := Nat.mod_lt _ (by simp)
        simp at hi
        simp at hlt
        omega
    | some i =>
      simp only []
      rw [linearise_go_acc, List.reverse_singleton, List.singleton_append]
      have hmem := List.mem_of_getElem? hi
      have hq := h2 i (by rw [hL.ready]; exact hmem)
      by_cases hin : i = n
      · subst hin
        have hall := last_all hs hnS inv hmem
        have hrn : Region.ready .any ops (listed.setIfInBounds i true) = [] := by
          rw [List.eq_nil_iff_forall_not_mem]
          intro j hj
          have hjs := ready_lt hj
          have hj0 := (mem_ready.1 hj).1
          rw [hL.size] at hjs
          by_cases hji : j = i
          · subst hji
            have hsz : j < listed.size := by rw [inv.size]; exact hnS
            simp [hsz] at hj0
          · rw [getD_set_ne true (Ne.symm hji)] at hj0
            have hj1 := hall (i - j) j (by omega) (by omega)
            have := getD_both hj0
            rw [hj1] at this; cases this
        rw [go_of_ready_nil hrn]
        refine hend a w hC ?_
        have hK : wpAnyQ P .any ops' C R fuel (listed.setIfInBounds i true) a := by
          unfold qOp at hq
          simp only [hL.last'] at hq
          have hw : Region.wanted (struck o) (Go.yielded ops' a.tmps) = true := by simp [Region.wanted, struck, hg]
          rw [if_pos hw] at hq
          obtain ⟨v, _, hk⟩ := hq
          have hd' : (struck o).dst = none := hd
          rw [hd'] at hk
          exact hk
        have hr' : Region.ready .any ops' (listed.setIfInBounds i true) = [] := by rw [hL.ready]; exact hrn
        cases fuel with
        | zero => exact hK.2
        | succ fuel => exact hK.1 hr'
      · have hlt : i < n := by have := ready_lt hmem; rw [hL.size] at this; omega
        have inv' := inv.set hmem hlt
        have hoi : ops'[i]? = ops[i]? := hL.same i hin
        unfold qOp at hq
        rw [hoi] at hq
        cases ho : ops[i]? with
        | none =>
          exfalso
          have := ready_lt hmem
          simp at ho
          omega
        | some oi =>
          simp only [ho, hL.yielded] at hq
          cases hw : Region.wanted oi (Go.yielded ops a.tmps) with
          | true =>
            rw [if_pos hw] at hq
            exact wpOps_op ho hw (Oper.wp_of_quiet hC (fun a' w' hC' hk => ih _ _ a' w' hC' inv' hk) hq)
          | false =>
            rw [if_neg (by simp [hw])] at hq
            exact wpOps_skip ho hw (ih _ _ _ w hC inv' hq)

/-- A region that draws its order: quiet in the class C up to its last operation, which waits for all others. -/
theorem wp_region_last {id : Nat} {l : List Oper} {o : Oper} {a : Act} {w : World} (hm : P.follows .mixedOrders = true) (hg : o.guard = none) (hd : o.dst = none)
    (hB : Region.lexB .any (l ++ [struck o]).toArray = true) (hs : Region.sinkB .any (l ++ [o]).toArray l.length = true) (hb : backB (l ++ [o]).toArray = true)
    (hC : C { w with drawn := w.drawn + 1 })
    (h : wpQuiet P (l ++ [struck o]).toArray C (fun a' => ∀ w', C w' → wpOps P (l ++ [o]).toArray Q [l.length] a' w') l a) : (Code.region id (l ++ [o]).toArray true).wp P Q a w := by
  refine wp_region_draw fun t => ?_
  simp only [Region.schedule, hm, Bool.true_or, if_true, Region.linearise]
  have hL : LastAt (l ++ [o]).toArray (l ++ [struck o]).toArray l.length o := by
    refine ⟨by simp, by simp, fun i hi => ?_, by simp, by simp⟩
    simp only [List.getElem?_toArray]
    by_cases hlt : i < l.length
    · rw [List.getElem?_append_left hlt, List.getElem?_append_left hlt]
    · rw [List.getElem?_eq_none (by simp; omega), List.getElem?_eq_none (by simp; omega)]
  have inv0 : HeadInv .any (l ++ [o]).toArray l.length (Array.replicate (l ++ [o]).toArray.size false) :=
    ⟨by simp, fun j oj _ hl => (by rw [getD_replicate_false] at hl; cases hl), fun t _ ht => getD_in (by simpa using ht) (getD_replicate_false _ _)⟩
  refine wpOps_quiet_last (C := C) (R := fun a' => ∀ w', C w' → wpOps P (l ++ [o]).toArray Q [l.length] a' w') hL hg hd hs hb (fun a w hw h => h w hw) _ t _ a _ hC inv0 ?_
  simp only [Region.lexB, Bool.and_eq_true] at hB
  have h1 : wpQuiet P (l ++ [struck o]).toArray C (fun a' => ∀ w', C w' → wpOps P (l ++ [o]).toArray Q [l.length] a' w') (l ++ [struck o]) a := by
    refine wpQuiet_append _ _ _ ?_
    have hmono : ∀ (l' : List Oper) (a : Act), wpQuiet P (l ++ [struck o]).toArray C (fun a' => ∀ w', C w' → wpOps P (l ++ [o]).toArray Q [l.length] a' w') l' a →
        wpQuiet P (l ++ [struck o]).toArray C (wpQuiet P (l ++ [struck o]).toArray C (fun a' => ∀ w', C w' → wpOps P (l ++ [o]).toArray Q [l.length] a' w') [struck o]) l' a := by
      intro l'
      induction l' with
      | nil =>
        intro a hh
        simp only [wpQuiet] at hh ⊢
        have hw : Region.wanted (struck o) (yielded (l ++ [struck o]).toArray a.tmps) = true := by simp [Region.wanted, struck, hg]
        rw [if_pos hw]
        refine ⟨undef, fun w' _ => ?_, ?_⟩
        · simp [Oper.quietAt, struck, execOp, Act.eval, Oper.quietUpon]
        · have hd' : (struck o).dst = none := hd
          rw [hd']; exact hh
      | cons x l' ih =>
        intro a hh
        simp only [wpQuiet] at hh ⊢
        split
        · rename_i hw; rw [if_pos hw] at hh; exact Oper.quiet_mono ih hh
        · rename_i hw; rw [if_neg hw] at hh; exact ih _ hh
    exact hmono l a h
  have h2 := wpAnyQ_lex (C := C) (md := .any) hB.1 (l ++ [struck o]) 0 (Array.replicate (l ++ [struck o]).toArray.size false) a (by simp) (by simpa using hB.2) h1
  simpa using h2

/-- The same for a region whose operations are written out, at the class 'w after some draws'. -/
theorem wp_region_last_lit {id : Nat} {L : List Oper} {a : Act} {w : World} (hm : P.follows .mixedOrders = true) (hL : L = L.dropLast ++ [L.getLastD default]) (hg : (L.getLastD default).guard = none) (hd : (L.getLastD default).dst = none)
    (hB : Region.lexB .any (L.dropLast ++ [struck (L.getLastD default)]).toArray = true) (hs : Region.sinkB .any L.toArray L.dropLast.length = true) (hb : backB L.toArray = true)
    (h : wpQuiet P (L.dropLast ++ [struck (L.getLastD default)]).toArray (fun w' => ∃ n, w' = w.drewN n) (fun a' => ∀ w', (∃ n, w' = w.drewN n) → wpList P L.toArray Q [L.getLastD default] a' w') L.dropLast a) : (Code.region id L.toArray true).wp P Q a w := by
  have key := wp_region_last (P := P) (Q := Q) (C := fun w' => ∃ n, w' = w.drewN n) (id := id) (l := L.dropLast) (o := L.getLastD default) (a := a) (w := w) hm hg hd hB
  rw [← hL] at key
  refine key hs hb ⟨1, rfl⟩ ?_
  have e := wpOps_eq_wpList' (P := P) (Q := Q) (ops := L.toArray) [L.getLastD default] L.dropLast.length (fun j hj => by
    have hj0 : j = 0 := by simpa using hj
    subst hj0
    simp only [Nat.add_zero, List.getElem?_toArray]
    have h2 : (L.dropLast ++ [L.getLastD default])[L.dropLast.length]? = some (L.getLastD default) := by
      rw [List.getElem?_append_right (Nat.le_refl _)]
      simp
    rw [← hL] at h2
    rw [h2]
    rfl)
  have e' : wpOps P L.toArray Q [L.dropLast.length] = wpList P L.toArray Q [L.getLastD default] := e
  rw [e']
  exact h
end
end Go.Proofs.Ytdplffhieekfaaa
