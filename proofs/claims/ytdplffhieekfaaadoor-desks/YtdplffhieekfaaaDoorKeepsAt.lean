/-
  stampslaw's owner writes a list over, and keeps it: the rows in memory between two steps.
-/
import Derived.Test.YtdplffhieekfaaaDoorKeeps
namespace Go.Proofs.YtdplffhieekfaaaDoor
open Go.RowKit

theorem owns_stay {w w' : World} {base : Nat} {e : TypeId} {size : Nat} {v : Value} {n : Nat} {xs : List Value} (h : w.ownsRow base e size v n xs) (hb : ∀ x, v.ownBlock = some x → w'.heap[x]? = w.heap[x]?) : w'.ownsRow base e size v n xs := by
  refine ⟨h.1, ?_⟩
  rcases h.2 with hn | ⟨g, cap, cur, rfl, h1, h2, h3⟩
  · exact Or.inl hn
  · exact Or.inr ⟨g, cap, cur, rfl, h1, (hb g rfl).trans h2, h3⟩

theorem owns_in {w : World} {base : Nat} {e : TypeId} {size : Nat} {v : Value} {n : Nat} {xs : List Value} (h : w.ownsRow base e size v n xs) : ∀ x, v.ownBlock = some x → base ≤ x ∧ x < w.heap.size := by
  intro x hx
  rcases h.2 with ⟨rfl, _⟩ | ⟨g, cap, cur, rfl, h1, h2, h3⟩
  · cases hx
  · obtain rfl : g = x := by simpa [Value.ownBlock] using hx
    exact ⟨h1, (Array.getElem?_eq_some_iff.1 h2).1⟩

theorem addr_add0 (g j : Nat) : (⟨g, 0, none⟩ : Addr).add j = ⟨g, j, none⟩ := by unfold Addr.add; split <;> simp_all

/-- Which blocks a list that came out may lie in. -/
structure InList (w : World) (B : Nat) (l0 lv mv : Value) (W : World) (b : Nat) : Prop where
  old : l0.ownBlock = some b ∨ w.heap.size ≤ b
  lv : lv.ownBlock ≠ some b
  mv : mv.ownBlock ≠ some b
  lt : b < W.heap.size
  ne : b ≠ B

/-- Between two steps of the owner's keeping. -/
structure KS (w : World) (B : Nat) (lv0 mv0 l0 : Value) (x c : Int) (W : World) (lv mv lc : Value) (Lr Mr : List Value) (nc : Nat) (N4 : List Value) : Prop where
  keep : Keep (fun i => i = B ∨ lv0.ownBlock = some i ∨ mv0.ownBlock = some i ∨ l0.ownBlock = some i) w W
  cB : ∀ o, o < 2 → W.cell? ⟨B, o, none⟩ = w.cell? ⟨B, o, none⟩
  c2 : W.cell? ⟨B, 2, none⟩ = some lv
  c3 : W.cell? ⟨B, 3, none⟩ = some mv
  c4 : W.cell? ⟨B, 4, none⟩ = some (.int .u64 c)
  fz : ∀ o, W.frozen? ⟨B, o, none⟩ = false
  lists : W.ownsRow (B + 1) 40 1 lv Lr.length Lr
  marks : W.ownsRow (B + 1) 25 1 mv Mr.length Mr
  cur : W.ownsRow (B + 1) 25 1 lc nc (List.replicate nc (.int .u64 x))
  lm : ∀ g, lv.ownBlock = some g → mv.ownBlock ≠ some g
  cl : ∀ g, lc.ownBlock = some g → lv.ownBlock ≠ some g
  cm : ∀ g, lc.ownBlock = some g → mv.ownBlock ≠ some g
  ol : ∀ g, lv.ownBlock = some g → lv0.ownBlock = some g ∨ w.heap.size ≤ g
  om : ∀ g, mv.ownBlock = some g → mv0.ownBlock = some g ∨ w.heap.size ≤ g
  oc : ∀ g, lc.ownBlock = some g → l0.ownBlock = some g ∨ w.heap.size ≤ g
  reads : ∀ v ∈ N4, ∃ a n cp, v = .slice a n cp ∧ n ≤ nc ∧ ∀ k, k < n → ∃ b, a = some ⟨b, 0, none⟩ ∧ InList w B l0 lv mv W b ∧ W.cell? ⟨b, k, none⟩ = some (.int .u64 x)

/-- A row grew, and its new place is told in B's cell. -/
theorem grew_keep {W W2 : World} {B o : Nat} {v v' : Value} {Z : Obj} (hg : (W.alloc Z).grownBy W2 v.ownBlock) : Keep (fun i => i = B ∨ v.ownBlock = some i) W (W2.setCell ⟨B, o, none⟩ v') := by
  have h1 : Keep (fun i => i = B ∨ v.ownBlock = some i) W W2 := ((Keep.refl _ W).alloc Z).trans' (keep_grown hg) (fun i _ e => Or.inr e.symm)
  exact h1.setCell (p := ⟨B, o, none⟩) (fun _ => Or.inl rfl) _

theorem KS.stepL {w : World} {B : Nat} {lv0 mv0 l0 : Value} {x c : Int} {W W2 : World} {lv lv' mv lc : Value} {Lr Mr : List Value} {nc : Nat} {N4 : List Value} {Z : Obj} (h : KS w B lv0 mv0 l0 x c W lv mv lc Lr Mr nc N4)
    (ho : W2.ownsRow (B + 1) 40 1 lv' (Lr.length + 1) (Lr ++ [lc])) (hg : (W.alloc Z).grownBy W2 lv.ownBlock) (hl : lv'.ownBlock = lv.ownBlock ∨ lv'.ownBlock = some (W.alloc Z).heap.size) :
    KS w B lv0 mv0 l0 x c (W2.setCell ⟨B, 2, none⟩ lv') lv' mv lc (Lr ++ [lc]) Mr nc (N4 ++ [lc]) := by
  have hBlt : B < W.heap.size := block_lt_of_cell h.c2
  have hkk := grew_keep (B := B) (o := 2) (v' := lv') hg
  have hws := h.keep.size
  have hW2s : W.heap.size < W2.heap.size := by have := hg.size; simp at this; omega
  have il := owns_in h.lists
  have im := owns_in h.marks
  have ic := owns_in h.cur
  have hB2 : W2.heap[B]? = W.heap[B]? := by
    have e1 := hg.block B (by simp; omega) (fun e => by have := (il B e.symm).1; omega)
    rw [e1]; exact heap_alloc_old _ _ hBlt
  have cB2 : ∀ o, W2.cell? ⟨B, o, none⟩ = W.cell? ⟨B, o, none⟩ := fun o => World.cell?_of_block (w := W) hB2
  have cO : ∀ o, o ≠ 2 → (W2.setCell ⟨B, 2, none⟩ lv').cell? ⟨B, o, none⟩ = W.cell? ⟨B, o, none⟩ := fun o hne => by
    rw [World.cell?_setCell_other _ _ _ _ (by simp <;> omega)]; exact cB2 o
  have blk : ∀ z, z < W.heap.size → z ≠ B → lv.ownBlock ≠ some z → (W2.setCell ⟨B, 2, none⟩ lv').heap[z]? = W.heap[z]? := fun z h1 h2 h3 => hkk.block z h1 (fun e => e.elim h2 h3)
  have new : ∀ g, lv'.ownBlock = some g → lv.ownBlock = some g ∨ W.heap.size < g := fun g hg' => by
    rcases hl with e | e
    · exact Or.inl (e ▸ hg')
    · rw [e] at hg'; cases hg'; right; simp
  have ssz : (W2.setCell ⟨B, 2, none⟩ lv').heap.size = W2.heap.size := by simp [World.setCell]
  have il' := owns_in ho
  have rd : ∀ v ∈ N4 ++ [lc], ∃ a n cp, v = .slice a n cp ∧ n ≤ nc ∧ ∀ k, k < n → ∃ b, a = some ⟨b, 0, none⟩ ∧ InList w B l0 lv mv W b ∧ W.cell? ⟨b, k, none⟩ = some (.int .u64 x) := fun v hv => by
    rcases List.mem_append.1 hv with hv | hv
    · exact h.reads v hv
    · obtain rfl := List.mem_singleton.1 hv
      obtain ⟨a, cp, rfl⟩ := owns_slice h.cur
      refine ⟨a, nc, cp, rfl, Nat.le_refl _, fun k hk => ?_⟩
      obtain ⟨g, rfl⟩ : ∃ g, a = some ⟨g, 0, none⟩ := by
        rcases h.cur.2 with ⟨_, h0⟩ | ⟨g, _, _, he, _⟩
        · omega
        · simp only [Value.slice.injEq] at he; exact ⟨g, he.1⟩
      have hgb : (Value.slice (some ⟨g, 0, none⟩) nc cp).ownBlock = some g := rfl
      refine ⟨g, rfl, ⟨h.oc g hgb, h.cl g hgb, h.cm g hgb, (ic g hgb).2, by have := (ic g hgb).1; omega⟩, ?_⟩
      have := h.cur.cells (g := g) rfl k (.int .u64 x) (by rw [List.getElem?_replicate]; simp [hk])
      rwa [addr_add0] at this
  refine ⟨h.keep.trans' hkk (fun i hi e => ?_), fun o ho' => (cO o (by omega)).trans (h.cB o ho'), World.cell?_setCell_same _ _ _ ((cB2 2).trans h.c2), (cO 3 (by omega)).trans h.c3, (cO 4 (by omega)).trans h.c4, fun o => ?_, ?_, ?_, ?_, ?_, ?_, h.cm, ?_, h.om, h.oc, ?_⟩
  · rcases e with e | e
    · exact Or.inl e
    · rcases h.ol i e with e' | e'
      · exact Or.inr (Or.inl e')
      · omega
  · rw [World.frozen?_setCell]; exact (World.frozen?_of_block (w := W) (a := ⟨B, o, none⟩) hB2).trans (h.fz o)
  · rw [List.length_append, List.length_singleton]
    exact owns_stay ho (fun z hz => Below.heap_setCell _ _ _ _ (fun e => by have := (il' z hz).1; simp at e; omega))
  · exact owns_stay h.marks (fun z hz => blk z (im z hz).2 (by have := (im z hz).1; omega) (fun e => h.lm z e hz))
  · exact owns_stay h.cur (fun z hz => blk z (ic z hz).2 (by have := (ic z hz).1; omega) (h.cl z hz))
  · intro g hg' hm
    rcases new g hg' with e | e
    · exact h.lm g e hm
    · have := (im g hm).2; omega
  · intro g hg' hm
    rcases new g hm with e | e
    · exact h.cl g hg' e
    · have := (ic g hg').2; omega
  · intro g hg'
    rcases new g hg' with e | e
    · exact h.ol g e
    · right; omega
  · intro v hv
    obtain ⟨a, n, cp, e, hn, hr⟩ := rd v hv
    refine ⟨a, n, cp, e, hn, fun k hk => ?_⟩
    obtain ⟨b, ea, hin, hc⟩ := hr k hk
    refine ⟨b, ea, ⟨hin.old, fun e => ?_, hin.mv, by rw [ssz]; have := hin.lt; omega, hin.ne⟩, ?_⟩
    · rcases new b e with e | e
      · exact hin.lv e
      · have := hin.lt; omega
    · rw [← hc]; exact World.cell?_of_block (w := W) (blk b hin.lt hin.ne hin.lv)

theorem KS.stepM {w : World} {B : Nat} {lv0 mv0 l0 : Value} {x c : Int} {W W2 : World} {lv mv mv' lc : Value} {Lr Mr : List Value} {nc : Nat} {N4 : List Value} {Z : Obj} {u : Value} (h : KS w B lv0 mv0 l0 x c W lv mv lc Lr Mr nc N4)
    (ho : W2.ownsRow (B + 1) 25 1 mv' (Mr.length + 1) (Mr ++ [u])) (hg : (W.alloc Z).grownBy W2 mv.ownBlock) (hl : mv'.ownBlock = mv.ownBlock ∨ mv'.ownBlock = some (W.alloc Z).heap.size) :
    KS w B lv0 mv0 l0 x c (W2.setCell ⟨B, 3, none⟩ mv') lv mv' lc Lr (Mr ++ [u]) nc N4 := by
  have hBlt : B < W.heap.size := block_lt_of_cell h.c2
  have hkk := grew_keep (B := B) (o := 3) (v' := mv') hg
  have hws := h.keep.size
  have hW2s : W.heap.size < W2.heap.size := by have := hg.size; simp at this; omega
  have il := owns_in h.lists
  have im := owns_in h.marks
  have ic := owns_in h.cur
  have hB2 : W2.heap[B]? = W.heap[B]? := by
    have e1 := hg.block B (by simp; omega) (fun e => by have := (im B e.symm).1; omega)
    rw [e1]; exact heap_alloc_old _ _ hBlt
  have cB2 : ∀ o, W2.cell? ⟨B, o, none⟩ = W.cell? ⟨B, o, none⟩ := fun o => World.cell?_of_block (w := W) hB2
  have cO : ∀ o, o ≠ 3 → (W2.setCell ⟨B, 3, none⟩ mv').cell? ⟨B, o, none⟩ = W.cell? ⟨B, o, none⟩ := fun o hne => by
    rw [World.cell?_setCell_other _ _ _ _ (by simp <;> omega)]; exact cB2 o
  have blk : ∀ z, z < W.heap.size → z ≠ B → mv.ownBlock ≠ some z → (W2.setCell ⟨B, 3, none⟩ mv').heap[z]? = W.heap[z]? := fun z h1 h2 h3 => hkk.block z h1 (fun e => e.elim h2 h3)
  have new : ∀ g, mv'.ownBlock = some g → mv.ownBlock = some g ∨ W.heap.size < g := fun g hg' => by
    rcases hl with e | e
    · exact Or.inl (e ▸ hg')
    · rw [e] at hg'; cases hg'; right; simp
  have ssz : (W2.setCell ⟨B, 3, none⟩ mv').heap.size = W2.heap.size := by simp [World.setCell]
  have im' := owns_in ho
  refine ⟨h.keep.trans' hkk (fun i hi e => ?_), fun o ho' => (cO o (by omega)).trans (h.cB o ho'), (cO 2 (by omega)).trans h.c2, World.cell?_setCell_same _ _ _ ((cB2 3).trans h.c3), (cO 4 (by omega)).trans h.c4, fun o => ?_, ?_, ?_, ?_, ?_, h.cl, ?_, h.ol, ?_, h.oc, ?_⟩
  · rcases e with e | e
    · exact Or.inl e
    · rcases h.om i e with e' | e'
      · exact Or.inr (Or.inr (Or.inl e'))
      · omega
  · rw [World.frozen?_setCell]; exact (World.frozen?_of_block (w := W) (a := ⟨B, o, none⟩) hB2).trans (h.fz o)
  · exact owns_stay h.lists (fun z hz => blk z (il z hz).2 (by have := (il z hz).1; omega) (h.lm z hz))
  · rw [List.length_append, List.length_singleton]
    exact owns_stay ho (fun z hz => Below.heap_setCell _ _ _ _ (fun e => by have := (im' z hz).1; simp at e; omega))
  · exact owns_stay h.cur (fun z hz => blk z (ic z hz).2 (by have := (ic z hz).1; omega) (h.cm z hz))
  · intro g hg' hm
    rcases new g hm with e | e
    · exact h.lm g hg' e
    · have := (il g hg').2; omega
  · intro g hg' hm
    rcases new g hm with e | e
    · exact h.cm g hg' e
    · have := (ic g hg').2; omega
  · intro g hg'
    rcases new g hg' with e | e
    · exact h.om g e
    · right; omega
  · intro v hv
    obtain ⟨a, n, cp, e, hn, hr⟩ := h.reads v hv
    refine ⟨a, n, cp, e, hn, fun k hk => ?_⟩
    obtain ⟨b, ea, hin, hc⟩ := hr k hk
    refine ⟨b, ea, ⟨hin.old, hin.lv, fun e => ?_, by rw [ssz]; have := hin.lt; omega, hin.ne⟩, ?_⟩
    · rcases new b e with e | e
      · exact hin.mv e
      · have := hin.lt; omega
    · rw [← hc]; exact World.cell?_of_block (w := W) (blk b hin.lt hin.ne hin.mv)

theorem KS.stepC {w : World} {B : Nat} {lv0 mv0 l0 : Value} {x c : Int} {W W2 : World} {lv mv lc lc' : Value} {Lr Mr : List Value} {nc : Nat} {N4 : List Value} {Z : Obj} (h : KS w B lv0 mv0 l0 x c W lv mv lc Lr Mr nc N4)
    (ho : W2.ownsRow (B + 1) 25 1 lc' (nc + 1) (List.replicate nc (.int .u64 x) ++ [.int .u64 x])) (hg : (W.alloc Z).grownBy W2 lc.ownBlock) (hc : ∀ g j, lc.ownBlock = some g → j < nc * 1 → W2.cell? ⟨g, j, none⟩ = (W.alloc Z).cell? ⟨g, j, none⟩) (hl : lc'.ownBlock = lc.ownBlock ∨ lc'.ownBlock = some (W.alloc Z).heap.size) :
    KS w B lv0 mv0 l0 x c W2 lv mv lc' Lr Mr (nc + 1) N4 := by
  have hBlt : B < W.heap.size := block_lt_of_cell h.c2
  have hkk : Keep (fun i => lc.ownBlock = some i) W W2 := ((Keep.refl _ W).alloc Z).trans' (keep_grown hg) (fun i _ e => e.symm)
  have hws := h.keep.size
  have hW2s : W.heap.size < W2.heap.size := by have := hg.size; simp at this; omega
  have il := owns_in h.lists
  have im := owns_in h.marks
  have ic := owns_in h.cur
  have blk : ∀ z, z < W.heap.size → lc.ownBlock ≠ some z → W2.heap[z]? = W.heap[z]? := fun z h1 h3 => hkk.block z h1 h3
  have hB2 : W2.heap[B]? = W.heap[B]? := blk B hBlt (fun e => by have := (ic B e).1; omega)
  have cB2 : ∀ o, W2.cell? ⟨B, o, none⟩ = W.cell? ⟨B, o, none⟩ := fun o => World.cell?_of_block (w := W) hB2
  have new : ∀ g, lc'.ownBlock = some g → lc.ownBlock = some g ∨ W.heap.size < g := fun g hg' => by
    rcases hl with e | e
    · exact Or.inl (e ▸ hg')
    · rw [e] at hg'; cases hg'; right; simp
  refine ⟨h.keep.trans' hkk (fun i hi e => ?_), fun o ho' => (cB2 o).trans (h.cB o ho'), (cB2 2).trans h.c2, (cB2 3).trans h.c3, (cB2 4).trans h.c4, fun o => (World.frozen?_of_block (w := W) (a := ⟨B, o, none⟩) hB2).trans (h.fz o), ?_, ?_, ?_, h.lm, ?_, ?_, h.ol, h.om, ?_, ?_⟩
  · rcases h.oc i e with e' | e'
    · exact Or.inr (Or.inr (Or.inr e'))
    · omega
  · exact owns_stay h.lists (fun z hz => blk z (il z hz).2 (fun e => h.cl z e hz))
  · exact owns_stay h.marks (fun z hz => blk z (im z hz).2 (fun e => h.cm z e hz))
  · rw [List.replicate_succ']; exact ho
  · intro g hg' hm
    rcases new g hg' with e | e
    · exact h.cl g e hm
    · have := (il g hm).2; omega
  · intro g hg' hm
    rcases new g hg' with e | e
    · exact h.cm g e hm
    · have := (im g hm).2; omega
  · intro g hg'
    rcases new g hg' with e | e
    · exact h.oc g e
    · right; omega
  · intro v hv
    obtain ⟨a, n, cp, e, hn, hr⟩ := h.reads v hv
    refine ⟨a, n, cp, e, by omega, fun k hk => ?_⟩
    obtain ⟨b, ea, hin, hcl⟩ := hr k hk
    refine ⟨b, ea, ⟨hin.old, hin.lv, hin.mv, by have := hin.lt; omega, hin.ne⟩, ?_⟩
    by_cases hb : lc.ownBlock = some b
    · rw [hc b k hb (by omega), ← hcl]
      exact World.cell?_of_block (w := W) (heap_alloc_old _ _ hin.lt)
    · rw [← hcl]; exact World.cell?_of_block (w := W) (blk b hin.lt hb)
end Go.Proofs.YtdplffhieekfaaaDoor
