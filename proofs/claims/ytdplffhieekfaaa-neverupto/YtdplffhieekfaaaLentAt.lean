/-
  stampskeep.Lent: what lies in memory between two rounds of its first loop: the office, the ends, the sizes, the leases; a round.
-/
import Derived.Test.YtdplffhieekfaaaAny
import Derived.Maps.AppendAt
namespace Go.Proofs.Ytdplffhieekfaaa
open Go.RowKit Go.Maps Go.Lib

/-- A lease that was lent. -/
structure L3 where
  node : Nat
  frm : Nat
  to : Nat

def recs (ls : List L3) : List (Nat × Nat) := ls.map fun l => (l.node, l.to)
def leaseCells (ls : List L3) : List Value := ls.flatMap fun l => [.int .i64 l.node, .int .i64 l.frm, .int .i64 l.to]
def sizeCells (k : Nat) : List Value := (List.range k).map fun i => .int .i64 ((13 * (i + 1) : Nat) : Int)

theorem recs_snoc (ls : List L3) (l : L3) : recs (ls ++ [l]) = recs ls ++ [(l.node, l.to)] := by simp [recs]
theorem recs_length (ls : List L3) : (recs ls).length = ls.length := by simp [recs]
theorem leaseCells_snoc (ls : List L3) (l : L3) : leaseCells (ls ++ [l]) = leaseCells ls ++ [.int .i64 l.node, .int .i64 l.frm, .int .i64 l.to] := by simp [leaseCells]
theorem sizeCells_succ (k : Nat) : sizeCells (k + 1) = sizeCells k ++ [.int .i64 ((13 * (k + 1) : Nat) : Int)] := by simp [sizeCells, List.range_succ]

theorem owns_on {w w' : World} {base : Nat} {e : TypeId} {size : Nat} {v : Value} {n : Nat} {xs : List Value} (h : w.ownsRow base e size v n xs) (hb : ∀ x, v.ownBlock = some x → w'.heap[x]? = w.heap[x]?) : w'.ownsRow base e size v n xs := by
  refine ⟨h.1, ?_⟩
  rcases h.2 with hn | ⟨g, cap, cur, rfl, h1, h2, h3⟩
  · exact Or.inl hn
  · exact Or.inr ⟨g, cap, cur, rfl, h1, (hb g rfl).trans h2, h3⟩

theorem owns_lt {w : World} {base : Nat} {e : TypeId} {size : Nat} {v : Value} {n : Nat} {xs : List Value} (h : w.ownsRow base e size v n xs) : ∀ x, v.ownBlock = some x → base ≤ x ∧ x < w.heap.size := by
  intro x hx
  rcases h.2 with ⟨rfl, _⟩ | ⟨g, cap, cur, rfl, h1, h2, h3⟩
  · cases hx
  · obtain rfl : g = x := by simpa [Value.ownBlock] using hx
    exact ⟨h1, (Array.getElem?_eq_some_iff.1 h2).1⟩

/-- The rows of Lent beside its office: the ends, the sizes, the leases. -/
structure LentRows (B : Nat) (W : World) (b m g E : Nat) (vS vL : Value) (rs : List (Nat × Nat)) (ns : Nat) (ls : List L3) : Prop where
  ends : ∀ j, j < 4 → W.cell? ⟨E, j, none⟩ = some (.int .i64 (fenceOf rs j))
  efz : ∀ j, W.frozen? ⟨E, j, none⟩ = false
  sizes : W.ownsRow B 3 1 vS ns (sizeCells ns)
  leases : W.ownsRow B 39 3 vL ls.length (leaseCells ls)
  eb : E ≠ b
  em : E ≠ m
  eg : E ≠ g
  sa : ∀ x, vS.ownBlock = some x → x ≠ b ∧ x ≠ m ∧ x ≠ g ∧ x ≠ E
  la : ∀ x, vL.ownBlock = some x → x ≠ b ∧ x ≠ m ∧ x ≠ g ∧ x ≠ E
  sl : ∀ x, vS.ownBlock = some x → vL.ownBlock ≠ some x
  eB : B ≤ E

structure LentAt (w W : World) (b m g cap span E : Nat) (vS vL : Value) (ls : List L3) : Prop where
  off : OfficeAt W b m g cap span (recs ls)
  rows : LentRows w.heap.size W b m g E vS vL (recs ls) ls.length ls
  bB : w.heap.size ≤ b
  mB : w.heap.size ≤ m
  gB : w.heap.size ≤ g
  bel : Below w.heap.size w W
  small : ∀ j, fenceOf (recs ls) j ≤ 2500 + 1000 * ls.length
  nodes : ∀ l ∈ ls, l.node < 4

theorem LentRows.elt {B : Nat} {W : World} {b m g E : Nat} {vS vL : Value} {rs : List (Nat × Nat)} {ns : Nat} {ls : List L3} (h : LentRows B W b m g E vS vL rs ns ls) : E < W.heap.size := block_lt_of_cell (h.ends 0 (by omega))

/-- Behind Lease: the rows are as they were. -/
theorem LentRows.leased {B : Nat} {W W1 : World} {b m g g' E : Nat} {vS vL : Value} {rs : List (Nat × Nat)} {ns : Nat} {ls : List L3} (h : LentRows B W b m g E vS vL rs ns ls) (hL : Keep (fun k => k = b ∨ k = m ∨ k = g) W W1) (hg : g' = g ∨ W.heap.size ≤ g') : LentRows B W1 b m g' E vS vL rs ns ls := by
  have hE := h.elt
  have ne : ∀ x, x < W.heap.size → x ≠ g → x ≠ g' := fun x hx h1 h2 => by rcases hg with h | h <;> omega
  have kE : W1.heap[E]? = W.heap[E]? := hL.block E hE (fun hs => by rcases hs with e | e | e; exact h.eb e; exact h.em e; exact h.eg e)
  have kS : ∀ x, vS.ownBlock = some x → W1.heap[x]? = W.heap[x]? := fun x hx => hL.block x (owns_lt h.sizes x hx).2 (fun hs => by have := h.sa x hx; rcases hs with e | e | e; exact this.1 e; exact this.2.1 e; exact this.2.2.1 e)
  have kL : ∀ x, vL.ownBlock = some x → W1.heap[x]? = W.heap[x]? := fun x hx => hL.block x (owns_lt h.leases x hx).2 (fun hs => by have := h.la x hx; rcases hs with e | e | e; exact this.1 e; exact this.2.1 e; exact this.2.2.1 e)
  exact ⟨fun j hj => (World.cell?_of_block (w := W) (a := ⟨E, j, none⟩) kE).trans (h.ends j hj), fun j => (World.frozen?_of_block (w := W) (a := ⟨E, j, none⟩) kE).trans (h.efz j), owns_on h.sizes kS, owns_on h.leases kL, h.eb, h.em, ne E hE h.eg,
    fun x hx => ⟨(h.sa x hx).1, (h.sa x hx).2.1, ne x (owns_lt h.sizes x hx).2 (h.sa x hx).2.2.1, (h.sa x hx).2.2.2⟩, fun x hx => ⟨(h.la x hx).1, (h.la x hx).2.1, ne x (owns_lt h.leases x hx).2 (h.la x hx).2.2.1, (h.la x hx).2.2.2⟩, h.sl, h.eB⟩

/-- While its blocks stay. -/
theorem LentRows.on {B : Nat} {W W1 : World} {b m g E : Nat} {vS vL : Value} {rs : List (Nat × Nat)} {ns : Nat} {ls : List L3} (h : LentRows B W b m g E vS vL rs ns ls) (hk : ∀ x, x < W.heap.size → W1.heap[x]? = W.heap[x]?) : LentRows B W1 b m g E vS vL rs ns ls := by
  have kE := hk E h.elt
  exact ⟨fun j hj => (World.cell?_of_block (w := W) (a := ⟨E, j, none⟩) kE).trans (h.ends j hj), fun j => (World.frozen?_of_block (w := W) (a := ⟨E, j, none⟩) kE).trans (h.efz j), owns_on h.sizes (fun x hx => hk x (owns_lt h.sizes x hx).2), owns_on h.leases (fun x hx => hk x (owns_lt h.leases x hx).2), h.eb, h.em, h.eg, h.sa, h.la, h.sl, h.eB⟩

/-- The end of a node is written. -/
theorem LentRows.wrote {B : Nat} {W : World} {b m g E : Nat} {vS vL : Value} {rs : List (Nat × Nat)} {ns : Nat} {ls : List L3} (h : LentRows B W b m g E vS vL rs ns ls) (node to : Nat) (hn : node < 4) : LentRows B (W.setCell ⟨E, node, none⟩ (.int .i64 to)) b m g E vS vL (rs ++ [(node, to)]) ns ls := by
  have hsb : ∀ x, x ≠ E → (W.setCell ⟨E, node, none⟩ (.int .i64 to)).heap[x]? = W.heap[x]? := fun x hx => Below.heap_setCell _ _ _ _ hx
  refine ⟨fun j hj => ?_, fun j => by rw [World.frozen?_setCell]; exact h.efz j, owns_on h.sizes (fun x hx => hsb x (h.sa x hx).2.2.2), owns_on h.leases (fun x hx => hsb x (h.la x hx).2.2.2), h.eb, h.em, h.eg, h.sa, h.la, h.sl, h.eB⟩
  rw [fence_snoc]
  by_cases e : node = j
  · subst e
    rw [if_pos rfl]
    exact World.cell?_setCell_same _ _ _ (h.ends node hn)
  · rw [if_neg e, World.cell?_setCell_other _ _ _ _ (by simp <;> omega)]
    exact h.ends j hj

/-- A lease is kept. -/
theorem LentRows.kept {B : Nat} {W W1 : World} {b m g E : Nat} {vS vL vL' : Value} {rs : List (Nat × Nat)} {ns : Nat} {ls : List L3} (h : LentRows B W b m g E vS vL rs ns ls) (l : L3)
    (ho : W1.ownsRow B 39 3 vL' (ls.length + 1) (leaseCells ls ++ [.int .i64 l.node, .int .i64 l.frm, .int .i64 l.to])) (hg : W.grownBy W1 vL.ownBlock) (hl : vL'.ownBlock = vL.ownBlock ∨ vL'.ownBlock = some W.heap.size)
    (hb : b < W.heap.size) (hm : m < W.heap.size) (hgg : g < W.heap.size) : LentRows B W1 b m g E vS vL' rs ns (ls ++ [l]) := by
  have hE := h.elt
  have hne : ∀ x, x < W.heap.size → (∀ y, vL.ownBlock = some y → y ≠ x) → W1.heap[x]? = W.heap[x]? := fun x hx hy => hg.block x hx (fun e => hy x e.symm rfl)
  have kE := hne E hE (fun y hy => (h.la y hy).2.2.2)
  refine ⟨fun j hj => (World.cell?_of_block (w := W) (a := ⟨E, j, none⟩) kE).trans (h.ends j hj), fun j => (World.frozen?_of_block (w := W) (a := ⟨E, j, none⟩) kE).trans (h.efz j), owns_on h.sizes (fun x hx => hne x (owns_lt h.sizes x hx).2 (fun y hy e => h.sl x hx (e ▸ hy))), ?_, h.eb, h.em, h.eg, h.sa, fun x hx => ?_, fun x hx e => ?_, h.eB⟩
  · rw [List.length_append, List.length_singleton, leaseCells_snoc]; exact ho
  · rcases hl with e | e
    · exact h.la x (e ▸ hx)
    · rw [e] at hx; cases hx; omega
  · rcases hl with e2 | e2
    · exact h.sl x hx (e2 ▸ e)
    · rw [e2] at e; cases e; have := (owns_lt h.sizes _ hx).2; omega

/-- A size is kept. -/
theorem LentRows.sized {B : Nat} {W W1 : World} {b m g E : Nat} {vS vS' vL : Value} {rs : List (Nat × Nat)} {ns : Nat} {ls : List L3} (h : LentRows B W b m g E vS vL rs ns ls)
    (ho : W1.ownsRow B 3 1 vS' (ns + 1) (sizeCells ns ++ [.int .i64 ((13 * (ns + 1) : Nat) : Int)])) (hg : W.grownBy W1 vS.ownBlock) (hl : vS'.ownBlock = vS.ownBlock ∨ vS'.ownBlock = some W.heap.size)
    (hb : b < W.heap.size) (hm : m < W.heap.size) (hgg : g < W.heap.size) : LentRows B W1 b m g E vS' vL rs (ns + 1) ls := by
  have hE := h.elt
  have hne : ∀ x, x < W.heap.size → (∀ y, vS.ownBlock = some y → y ≠ x) → W1.heap[x]? = W.heap[x]? := fun x hx hy => hg.block x hx (fun e => hy x e.symm rfl)
  have kE := hne E hE (fun y hy => (h.sa y hy).2.2.2)
  refine ⟨fun j hj => (World.cell?_of_block (w := W) (a := ⟨E, j, none⟩) kE).trans (h.ends j hj), fun j => (World.frozen?_of_block (w := W) (a := ⟨E, j, none⟩) kE).trans (h.efz j), ?_, owns_on h.leases (fun x hx => hne x (owns_lt h.leases x hx).2 (fun y hy e => h.sl y hy (e ▸ hx))), h.eb, h.em, h.eg, fun x hx => ?_, h.la, fun x hx e => ?_, h.eB⟩
  · rw [sizeCells_succ]; exact ho
  · rcases hl with e | e
    · exact h.sa x (e ▸ hx)
    · rw [e] at hx; cases hx; omega
  · rcases hl with e2 | e2
    · exact h.sl x (e2 ▸ hx) e
    · rw [e2] at hx; cases hx; have := (owns_lt h.leases _ e).2; omega

theorem lease3_info : (Try.prog.info? 39).map (fun i => (i.zero, i.size, i.bytes)) = some (some (.agg #[.int .i64 0, .int .i64 0, .int .i64 0]), 3, 24) := by kernel_rfl
theorem int_info : (Try.prog.info? 3).map (fun i => (i.zero, i.size, i.bytes)) = some (some (.int .i64 0), 1, 8) := by kernel_rfl

theorem cell_three_new (w : World) (x y z : Value) (t : TypeId) : ∀ j u, [x, y, z][j]? = some u → (w.alloc (.cells #[x, y, z] t)).cell? ((⟨w.heap.size, 0, none⟩ : Addr).add j) = some u := by
  intro j u hj
  rw [Lib.add_plain, Nat.zero_add, (cell_alloc_new w #[x, y, z] t j).1]
  simpa using hj

/-! ### an office that begins anew -/

theorem jtext_take (rs : List (Nat × Nat)) (k : Nat) : (jtext rs).take (13 * k) = jtext (rs.take k) := by
  induction rs generalizing k with
  | nil => simp [jtext]
  | cons r rs ih =>
    cases k with
    | zero => simp [jtext]
    | succ k =>
      rw [List.take_succ_cons, jtext_cons, jtext_cons, List.take_append, recText_length, ← ih k, List.take_of_length_le (by rw [recText_length]; omega)]
      congr 2 <;> omega

theorem jtext_drop (rs : List (Nat × Nat)) (k : Nat) : (jtext rs).drop (13 * k) = jtext (rs.drop k) := by
  induction rs generalizing k with
  | nil => simp [jtext]
  | cons r rs ih =>
    cases k with
    | zero => simp
    | succ k =>
      rw [List.drop_succ_cons, jtext_cons, List.drop_append, recText_length, ← ih k, List.drop_eq_nil_of_le (by rw [recText_length]; omega), List.nil_append]
      congr 1 <;> omega

theorem begins_tail (rs : List (Nat × Nat)) (hg : Good rs) (n : Nat) : begins (((jtext rs).take n).drop (13 * (n / 13))) = true := by
  rw [List.drop_take, jtext_drop]
  by_cases hk : n / 13 < rs.length
  · rw [List.drop_eq_getElem_cons hk, jtext_cons, List.take_append_of_le_length (by rw [recText_length]; omega)]
    have g := hg (n / 13) hk
    exact begins_take _ _ (recNum_lt _ _ g.1 (by omega) g.2.1) (by unfold recNum; omega) (by omega)
  · rw [List.drop_eq_nil_of_le (by omega)]
    have := begins_take 4095 0 (by omega) rfl (by omega)
    simpa [jtext] using this

/-- Of the beginning of a journal that an office told: an office with the records that are there whole. -/
theorem newOffice_told (rs : List (Nat × Nat)) (hg : Good rs) (n span : Nat) (w : World) (hn : n ≤ (jtext rs).length) (h1 : 1 ≤ span) (h2 : span ≤ 1000000) (hl : n ≤ 140737488355328) :
    Calls Try.prog 17 #[.string (btext ((jtext rs).take n)), .int .i64 span] w fun e w' => ∃ b m g cap, e = .returned (.tuple #[.pointer (some ⟨b, 0, none⟩), .int .i64 0]) ∧ w.heap.size ≤ b ∧ w.heap.size ≤ m ∧ w.heap.size ≤ g ∧
      OfficeAt w' b m g cap span (rs.take (n / 13)) ∧ Below w.heap.size w w' := by
  have hlen : ((jtext rs).take n).length = n := by rw [List.length_take]; omega
  have htk : ((jtext rs).take n).take (13 * (n / 13)) = jtext (rs.take (n / 13)) := by rw [List.take_take, Nat.min_eq_left (by omega), jtext_take]
  refine (newOffice_any ((jtext rs).take n) span w h1 h2 (by omega)).mono ?_
  rintro e w' ⟨hR, hb⟩
  rcases hR with ⟨b, m, g, cap, ss, he, hbb, hmm, hgg, hj, _, hO⟩ | ⟨_, hno⟩
  · rw [hlen, htk] at hj
    have hs : ss = rs.take (n / 13) := by
      have e1 := good_prefix hO.good (hg.take _) (rest := []) (by rw [List.append_nil]; exact hj)
      have e2 : ss.length = (rs.take (n / 13)).length := by
        have := congrArg List.length hj
        rw [jtext_length, jtext_length] at this
        omega
      rw [e1, e2, List.take_length]
    rw [hs] at hO
    exact ⟨b, m, g, cap, he, hbb, hmm, hgg, hO, hb⟩
  · rw [hlen] at hno
    rcases hno with h | h
    · rw [begins_tail rs hg n] at h; cases h
    · exact absurd htk (h _ (hg.take _))
end Go.Proofs.Ytdplffhieekfaaa
