/-
  Plain lists: a journal of records, the fences that it tells, when it is one that offices can have told; a journal is told by one list of records alone.
-/
import Derived.Test.YtdplffhieekfaaaBack
namespace Go.Proofs.Ytdplffhieekfaaa

/-- The text of records, each a node and the To of its lease. -/
def jtext (rs : List (Nat × Nat)) : List UInt8 := rs.flatMap fun r => recText r.1 r.2

/-- The fence of a node behind records. -/
def fenceOf (rs : List (Nat × Nat)) (nd : Nat) : Nat := rs.foldl (fun f r => if r.1 = nd then r.2 else f) 0

/-- Records that an office can have told. -/
def Good (rs : List (Nat × Nat)) : Prop := ∀ k (h : k < rs.length), rs[k].1 < 1024 ∧ rs[k].2 ≤ 2199023255552 ∧ fenceOf (rs.take k) rs[k].1 < rs[k].2

theorem jtext_snoc (rs : List (Nat × Nat)) (r : Nat × Nat) : jtext (rs ++ [r]) = jtext rs ++ recText r.1 r.2 := by simp [jtext]
theorem jtext_append (rs ss : List (Nat × Nat)) : jtext (rs ++ ss) = jtext rs ++ jtext ss := by simp [jtext]
theorem jtext_cons (r : Nat × Nat) (rs : List (Nat × Nat)) : jtext (r :: rs) = recText r.1 r.2 ++ jtext rs := by simp [jtext]
theorem recText_length (a b : Nat) : (recText a b).length = 13 := by unfold recText; exact short_length _
theorem jtext_length (rs : List (Nat × Nat)) : (jtext rs).length = 13 * rs.length := by
  induction rs with
  | nil => rfl
  | cons r rs ih => rw [jtext_cons, List.length_append, recText_length, ih, List.length_cons]; omega

theorem fence_snoc (rs : List (Nat × Nat)) (r : Nat × Nat) (nd : Nat) : fenceOf (rs ++ [r]) nd = if r.1 = nd then r.2 else fenceOf rs nd := by
  unfold fenceOf; rw [List.foldl_append]; rfl

theorem good_nil : Good [] := fun k h => by simp at h

theorem good_snoc {rs : List (Nat × Nat)} {r : Nat × Nat} (h : Good rs) (h1 : r.1 < 1024) (h2 : r.2 ≤ 2199023255552) (h3 : fenceOf rs r.1 < r.2) : Good (rs ++ [r]) := by
  intro k hk
  rw [List.length_append, List.length_singleton] at hk
  by_cases hlt : k < rs.length
  · rw [List.getElem_append_left hlt, List.take_append_of_le_length (by omega)]
    exact h k hlt
  · have : k = rs.length := by omega
    subst this
    rw [List.getElem_append_right (by omega)]
    simp only [Nat.sub_self, List.getElem_cons_zero]
    rw [List.take_append_of_le_length (Nat.le_refl _), List.take_length]
    exact ⟨h1, h2, h3⟩

theorem Good.take {rs : List (Nat × Nat)} (h : Good rs) (n : Nat) : Good (rs.take n) := by
  intro k hk
  rw [List.length_take] at hk
  rw [List.getElem_take, List.take_take, Nat.min_eq_left (by omega)]
  exact h k (by omega)

theorem fence_le {rs : List (Nat × Nat)} (h : Good rs) (nd : Nat) : fenceOf rs nd ≤ 2199023255552 := by
  have key : ∀ k, k ≤ rs.length → fenceOf (rs.take k) nd ≤ 2199023255552 := by
    intro k
    induction k with
    | zero => intro _; simp [fenceOf]
    | succ k ih =>
      intro hk
      rw [List.take_succ_eq_append_getElem (by omega), fence_snoc]
      split
      · exact (h k (by omega)).2.1
      · exact ih (by omega)
  have := key rs.length (Nat.le_refl _)
  rwa [List.take_length] at this

theorem rec_inj {a b c d : Nat} (ha : a < 1024) (hb : 1 ≤ b) (hb2 : b ≤ 2199023255552) (hc : c < 1024) (hd : 1 ≤ d) (hd2 : d ≤ 2199023255552) (h : recText a b = recText c d) : a = c ∧ b = d := by
  obtain ⟨_, e1, e2⟩ := rec_back a b ha hb hb2
  obtain ⟨_, e3, e4⟩ := rec_back c d hc hd hd2
  rw [h] at e1 e2
  exact ⟨e1.symm.trans e3, e2.symm.trans e4⟩

/-- Records that begin a journal are the first ones of it. -/
theorem good_prefix {rs ss : List (Nat × Nat)} {rest : List UInt8} (hr : Good rs) (hs : Good ss) (h : jtext ss = jtext rs ++ rest) : rs = ss.take rs.length := by
  have key : ∀ k, k ≤ rs.length → rs.take k = ss.take k := by
    intro k
    induction k with
    | zero => intro _; simp
    | succ k ih =>
      intro hk
      have hl : rs.length ≤ ss.length := by
        have := congrArg List.length h
        rw [List.length_append, jtext_length, jtext_length] at this
        omega
      have ih := ih (by omega)
      have e1 : jtext ss = jtext (ss.take k) ++ (recText (ss[k]'(by omega)).1 (ss[k]'(by omega)).2 ++ jtext (ss.drop (k + 1))) := by
        rw [← List.append_assoc, ← jtext_snoc, ← List.take_succ_eq_append_getElem (by omega), ← jtext_append, List.take_append_drop]
      have e2 : jtext rs = jtext (rs.take k) ++ (recText (rs[k]'(by omega)).1 (rs[k]'(by omega)).2 ++ jtext (rs.drop (k + 1))) := by
        rw [← List.append_assoc, ← jtext_snoc, ← List.take_succ_eq_append_getElem (by omega), ← jtext_append, List.take_append_drop]
      rw [e1, e2, ih, List.append_assoc] at h
      have h2 := List.append_cancel_left h
      rw [List.append_assoc] at h2
      have h3 := (List.append_inj h2 (by rw [recText_length, recText_length])).1
      have g1 := hs k (by omega)
      have g2 := hr k (by omega)
      obtain ⟨i1, i2⟩ := rec_inj g1.1 (by omega) g1.2.1 g2.1 (by omega) g2.2.1 h3
      rw [List.take_succ_eq_append_getElem (by omega), List.take_succ_eq_append_getElem (by omega), ih]
      congr 2
      exact Prod.ext i1.symm i2.symm
  have := key rs.length (Nat.le_refl _)
  rwa [List.take_length] at this

/-- A text that is a record is a lease's. -/
theorem rec_of_ok {s : ByteArray} (hs : s.size = 13) (h : recOk s) : s.data.toList = recText (recNode s) (recTo s) ∧ recNode s < 1024 ∧ 1 ≤ recTo s ∧ recTo s ≤ 2199023255552 := by
  obtain ⟨_, h2, h3⟩ := h
  have h1 := readNum_lt s hs
  refine ⟨?_, Nat.mod_lt _ (by omega), (recTo_le s hs).1, (recTo_le s hs).2⟩
  have e : recNum (recNode s) (recTo s) = readNum s := by unfold recNum recNode recTo; omega
  unfold recText
  rw [e]
  have := congrArg (fun b : ByteArray => b.data.toList) h3
  simpa using this.symm
end Go.Proofs.Ytdplffhieekfaaa
