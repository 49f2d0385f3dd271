/-
  A fleet that grows: each of its rows, by one.
-/
import Derived.Test.YtdplffhieekfaaaGrowAt
namespace Go.Proofs.Ytdplffhieekfaaa
open Go.RowKit Go.Maps Go.Lib

/-- The row of desks grows. -/
theorem GrowAt.moreD {B : Nat} {W W' : World} {G : GB} {rs : List (Nat × Nat)} {s : Nat → Dk} {lD lN lC lT : List Value} {u v : Value} (h : GrowAt B W G rs s lD lN lC lT) (ho : W'.ownsRow B 35 1 v (lD.length + 1) (lD ++ [u])) (hg : W.grownBy W' G.vD.ownBlock) (hl : v.ownBlock = G.vD.ownBlock ∨ v.ownBlock = some W.heap.size) :
    GrowAt B (W'.setCell ⟨G.X, 0, none⟩ v) { G with vD := v } rs s (lD ++ [u]) lN lC lT := by
  have sz := hg.size
  have hnA : ∀ p z, G.at p = some z → p ≠ .desks → W'.heap[z]? = W.heap[z]? := fun p z hp hne => hg.block z (h.base p z hp).2 (fun e => hne (h.apart p .desks z hp e.symm))
  have vn : ∀ z, v.ownBlock = some z → ∀ p, p ≠ .desks → G.at p ≠ some z := fun z hz p hne hp => by
    rcases hl with e | e
    · exact hne (h.apart p .desks z hp (e.symm.trans hz))
    · rw [e] at hz; cases hz; exact absurd (h.base p _ hp).2 (Nat.lt_irrefl _)
  have at' : ∀ p, p ≠ .desks → ({ G with vD := v } : GB).at p = G.at p := fun p hne => by cases p <;> first | rfl | exact absurd rfl hne
  have hn := h.but.on (W' := W'.setCell ⟨G.X, 0, none⟩ v) (R' := fun p => p = .desks ∨ p = .own) (fun p z hp hne => by
    have h1 : z ≠ G.X := fun e => hne (Or.inr (h.apart p .own z hp (by rw [e]; rfl)))
    rw [Below.heap_setCell _ _ _ _ h1]
    exact hnA p z hp (fun e => hne (Or.inl e)))
  have out : ∀ {p : Part}, p ≠ .desks → p ≠ .own → ¬ (none' p ∨ (p = .desks ∨ p = .own)) := fun h1 h3 h2 => h2.elim id (fun e => e.elim h1 h3)
  have hX : W'.heap[G.X]? = W.heap[G.X]? := hnA .own G.X rfl (by simp)
  have cX : ∀ o, W'.cell? ⟨G.X, o, none⟩ = W.cell? ⟨G.X, o, none⟩ := fun o => World.cell?_of_block (w := W) hX
  have cO : ∀ o, o ≠ 0 → (W'.setCell ⟨G.X, 0, none⟩ v).cell? ⟨G.X, o, none⟩ = W.cell? ⟨G.X, o, none⟩ := fun o hne => by
    rw [World.cell?_setCell_other _ _ _ _ (by simp <;> omega)]; exact cX o
  have hrow : (W'.setCell ⟨G.X, 0, none⟩ v).ownsRow B 35 1 v (lD ++ [u]).length (lD ++ [u]) := by
    rw [List.length_append, List.length_singleton]
    exact owns_on ho (fun z hz => Below.heap_setCell _ _ _ _ (fun e => vn z hz .own (by simp) (by rw [e]; rfl)))
  refine ⟨⟨fun _ => World.cell?_setCell_same _ _ _ ((cX 0).trans (h.but.x0 id)), fun _ => (cO 1 (by omega)).trans (h.but.x1 id), fun _ => (cO 2 (by omega)).trans (h.but.x2 id), fun _ => (cO 3 (by omega)).trans (h.but.x3 id), fun _ => (cO 4 (by omega)).trans (h.but.x4 id), fun _ => (cO 5 (by omega)).trans (h.but.x5 id),
    fun _ o => by rw [World.frozen?_setCell]; exact (World.frozen?_of_block (w := W) (a := ⟨G.X, o, none⟩) hX).trans (h.but.xz id o),
    fun _ => hrow, fun _ => hn.rN (out (by simp) (by simp)), fun _ => hn.rC (out (by simp) (by simp)), fun _ => hn.rT (out (by simp) (by simp)),
    fun i hi _ => hn.dsk i hi (out (by simp) (by simp)), fun _ _ _ => hn.off (out (by simp) (by simp)) (out (by simp) (by simp)) (out (by simp) (by simp))⟩, fun p q z hp hq => ?_, fun p z hp => ?_⟩
  · by_cases e1 : p = .desks
    · by_cases e2 : q = .desks
      · rw [e1, e2]
      · rw [e1] at hp; rw [at' q e2] at hq
        exact absurd hq (vn z hp q e2)
    · by_cases e2 : q = .desks
      · rw [e2] at hq; rw [at' p e1] at hp
        exact absurd hp (vn z hq p e1)
      · rw [at' p e1] at hp; rw [at' q e2] at hq
        exact h.apart p q z hp hq
  · have hs : (W'.setCell ⟨G.X, 0, none⟩ v).heap.size = W'.heap.size := by simp [World.setCell]
    rw [hs]
    by_cases e1 : p = .desks
    · rw [e1] at hp
      exact owns_lt ho z hp
    · rw [at' p e1] at hp
      have := h.base p z hp
      exact ⟨this.1, Nat.lt_of_lt_of_le this.2 sz⟩

/-- The row of nodes grows. -/
theorem GrowAt.moreN {B : Nat} {W W' : World} {G : GB} {rs : List (Nat × Nat)} {s : Nat → Dk} {lD lN lC lT : List Value} {u v : Value} (h : GrowAt B W G rs s lD lN lC lT) (ho : W'.ownsRow B 3 1 v (lN.length + 1) (lN ++ [u])) (hg : W.grownBy W' G.vN.ownBlock) (hl : v.ownBlock = G.vN.ownBlock ∨ v.ownBlock = some W.heap.size) :
    GrowAt B (W'.setCell ⟨G.X, 1, none⟩ v) { G with vN := v } rs s lD (lN ++ [u]) lC lT := by
  have sz := hg.size
  have hnA : ∀ p z, G.at p = some z → p ≠ .nodes → W'.heap[z]? = W.heap[z]? := fun p z hp hne => hg.block z (h.base p z hp).2 (fun e => hne (h.apart p .nodes z hp e.symm))
  have vn : ∀ z, v.ownBlock = some z → ∀ p, p ≠ .nodes → G.at p ≠ some z := fun z hz p hne hp => by
    rcases hl with e | e
    · exact hne (h.apart p .nodes z hp (e.symm.trans hz))
    · rw [e] at hz; cases hz; exact absurd (h.base p _ hp).2 (Nat.lt_irrefl _)
  have at' : ∀ p, p ≠ .nodes → ({ G with vN := v } : GB).at p = G.at p := fun p hne => by cases p <;> first | rfl | exact absurd rfl hne
  have hn := h.but.on (W' := W'.setCell ⟨G.X, 1, none⟩ v) (R' := fun p => p = .nodes ∨ p = .own) (fun p z hp hne => by
    have h1 : z ≠ G.X := fun e => hne (Or.inr (h.apart p .own z hp (by rw [e]; rfl)))
    rw [Below.heap_setCell _ _ _ _ h1]
    exact hnA p z hp (fun e => hne (Or.inl e)))
  have out : ∀ {p : Part}, p ≠ .nodes → p ≠ .own → ¬ (none' p ∨ (p = .nodes ∨ p = .own)) := fun h1 h3 h2 => h2.elim id (fun e => e.elim h1 h3)
  have hX : W'.heap[G.X]? = W.heap[G.X]? := hnA .own G.X rfl (by simp)
  have cX : ∀ o, W'.cell? ⟨G.X, o, none⟩ = W.cell? ⟨G.X, o, none⟩ := fun o => World.cell?_of_block (w := W) hX
  have cO : ∀ o, o ≠ 1 → (W'.setCell ⟨G.X, 1, none⟩ v).cell? ⟨G.X, o, none⟩ = W.cell? ⟨G.X, o, none⟩ := fun o hne => by
    rw [World.cell?_setCell_other _ _ _ _ (by simp <;> omega)]; exact cX o
  have hrow : (W'.setCell ⟨G.X, 1, none⟩ v).ownsRow B 3 1 v (lN ++ [u]).length (lN ++ [u]) := by
    rw [List.length_append, List.length_singleton]
    exact owns_on ho (fun z hz => Below.heap_setCell _ _ _ _ (fun e => vn z hz .own (by simp) (by rw [e]; rfl)))
  refine ⟨⟨fun _ => (cO 0 (by omega)).trans (h.but.x0 id), fun _ => World.cell?_setCell_same _ _ _ ((cX 1).trans (h.but.x1 id)), fun _ => (cO 2 (by omega)).trans (h.but.x2 id), fun _ => (cO 3 (by omega)).trans (h.but.x3 id), fun _ => (cO 4 (by omega)).trans (h.but.x4 id), fun _ => (cO 5 (by omega)).trans (h.but.x5 id),
    fun _ o => by rw [World.frozen?_setCell]; exact (World.frozen?_of_block (w := W) (a := ⟨G.X, o, none⟩) hX).trans (h.but.xz id o),
    fun _ => hn.rD (out (by simp) (by simp)), fun _ => hrow, fun _ => hn.rC (out (by simp) (by simp)), fun _ => hn.rT (out (by simp) (by simp)),
    fun i hi _ => hn.dsk i hi (out (by simp) (by simp)), fun _ _ _ => hn.off (out (by simp) (by simp)) (out (by simp) (by simp)) (out (by simp) (by simp))⟩, fun p q z hp hq => ?_, fun p z hp => ?_⟩
  · by_cases e1 : p = .nodes
    · by_cases e2 : q = .nodes
      · rw [e1, e2]
      · rw [e1] at hp; rw [at' q e2] at hq
        exact absurd hq (vn z hp q e2)
    · by_cases e2 : q = .nodes
      · rw [e2] at hq; rw [at' p e1] at hp
        exact absurd hp (vn z hq p e1)
      · rw [at' p e1] at hp; rw [at' q e2] at hq
        exact h.apart p q z hp hq
  · have hs : (W'.setCell ⟨G.X, 1, none⟩ v).heap.size = W'.heap.size := by simp [World.setCell]
    rw [hs]
    by_cases e1 : p = .nodes
    · rw [e1] at hp
      exact owns_lt ho z hp
    · rw [at' p e1] at hp
      have := h.base p z hp
      exact ⟨this.1, Nat.lt_of_lt_of_le this.2 sz⟩

/-- The row of clocks grows. -/
theorem GrowAt.moreC {B : Nat} {W W' : World} {G : GB} {rs : List (Nat × Nat)} {s : Nat → Dk} {lD lN lC lT : List Value} {u v : Value} (h : GrowAt B W G rs s lD lN lC lT) (ho : W'.ownsRow B 3 1 v (lC.length + 1) (lC ++ [u])) (hg : W.grownBy W' G.vC.ownBlock) (hl : v.ownBlock = G.vC.ownBlock ∨ v.ownBlock = some W.heap.size) :
    GrowAt B (W'.setCell ⟨G.X, 2, none⟩ v) { G with vC := v } rs s lD lN (lC ++ [u]) lT := by
  have sz := hg.size
  have hnA : ∀ p z, G.at p = some z → p ≠ .clocks → W'.heap[z]? = W.heap[z]? := fun p z hp hne => hg.block z (h.base p z hp).2 (fun e => hne (h.apart p .clocks z hp e.symm))
  have vn : ∀ z, v.ownBlock = some z → ∀ p, p ≠ .clocks → G.at p ≠ some z := fun z hz p hne hp => by
    rcases hl with e | e
    · exact hne (h.apart p .clocks z hp (e.symm.trans hz))
    · rw [e] at hz; cases hz; exact absurd (h.base p _ hp).2 (Nat.lt_irrefl _)
  have at' : ∀ p, p ≠ .clocks → ({ G with vC := v } : GB).at p = G.at p := fun p hne => by cases p <;> first | rfl | exact absurd rfl hne
  have hn := h.but.on (W' := W'.setCell ⟨G.X, 2, none⟩ v) (R' := fun p => p = .clocks ∨ p = .own) (fun p z hp hne => by
    have h1 : z ≠ G.X := fun e => hne (Or.inr (h.apart p .own z hp (by rw [e]; rfl)))
    rw [Below.heap_setCell _ _ _ _ h1]
    exact hnA p z hp (fun e => hne (Or.inl e)))
  have out : ∀ {p : Part}, p ≠ .clocks → p ≠ .own → ¬ (none' p ∨ (p = .clocks ∨ p = .own)) := fun h1 h3 h2 => h2.elim id (fun e => e.elim h1 h3)
  have hX : W'.heap[G.X]? = W.heap[G.X]? := hnA .own G.X rfl (by simp)
  have cX : ∀ o, W'.cell? ⟨G.X, o, none⟩ = W.cell? ⟨G.X, o, none⟩ := fun o => World.cell?_of_block (w := W) hX
  have cO : ∀ o, o ≠ 2 → (W'.setCell ⟨G.X, 2, none⟩ v).cell? ⟨G.X, o, none⟩ = W.cell? ⟨G.X, o, none⟩ := fun o hne => by
    rw [World.cell?_setCell_other _ _ _ _ (by simp <;> omega)]; exact cX o
  have hrow : (W'.setCell ⟨G.X, 2, none⟩ v).ownsRow B 3 1 v (lC ++ [u]).length (lC ++ [u]) := by
    rw [List.length_append, List.length_singleton]
    exact owns_on ho (fun z hz => Below.heap_setCell _ _ _ _ (fun e => vn z hz .own (by simp) (by rw [e]; rfl)))
  refine ⟨⟨fun _ => (cO 0 (by omega)).trans (h.but.x0 id), fun _ => (cO 1 (by omega)).trans (h.but.x1 id), fun _ => World.cell?_setCell_same _ _ _ ((cX 2).trans (h.but.x2 id)), fun _ => (cO 3 (by omega)).trans (h.but.x3 id), fun _ => (cO 4 (by omega)).trans (h.but.x4 id), fun _ => (cO 5 (by omega)).trans (h.but.x5 id),
    fun _ o => by rw [World.frozen?_setCell]; exact (World.frozen?_of_block (w := W) (a := ⟨G.X, o, none⟩) hX).trans (h.but.xz id o),
    fun _ => hn.rD (out (by simp) (by simp)), fun _ => hn.rN (out (by simp) (by simp)), fun _ => hrow, fun _ => hn.rT (out (by simp) (by simp)),
    fun i hi _ => hn.dsk i hi (out (by simp) (by simp)), fun _ _ _ => hn.off (out (by simp) (by simp)) (out (by simp) (by simp)) (out (by simp) (by simp))⟩, fun p q z hp hq => ?_, fun p z hp => ?_⟩
  · by_cases e1 : p = .clocks
    · by_cases e2 : q = .clocks
      · rw [e1, e2]
      · rw [e1] at hp; rw [at' q e2] at hq
        exact absurd hq (vn z hp q e2)
    · by_cases e2 : q = .clocks
      · rw [e2] at hq; rw [at' p e1] at hp
        exact absurd hp (vn z hq p e1)
      · rw [at' p e1] at hp; rw [at' q e2] at hq
        exact h.apart p q z hp hq
  · have hs : (W'.setCell ⟨G.X, 2, none⟩ v).heap.size = W'.heap.size := by simp [World.setCell]
    rw [hs]
    by_cases e1 : p = .clocks
    · rw [e1] at hp
      exact owns_lt ho z hp
    · rw [at' p e1] at hp
      have := h.base p z hp
      exact ⟨this.1, Nat.lt_of_lt_of_le this.2 sz⟩

/-- The row of last grows. -/
theorem GrowAt.moreT {B : Nat} {W W' : World} {G : GB} {rs : List (Nat × Nat)} {s : Nat → Dk} {lD lN lC lT : List Value} {u v : Value} (h : GrowAt B W G rs s lD lN lC lT) (ho : W'.ownsRow B 22 1 v (lT.length + 1) (lT ++ [u])) (hg : W.grownBy W' G.vT.ownBlock) (hl : v.ownBlock = G.vT.ownBlock ∨ v.ownBlock = some W.heap.size) :
    GrowAt B (W'.setCell ⟨G.X, 3, none⟩ v) { G with vT := v } rs s lD lN lC (lT ++ [u]) := by
  have sz := hg.size
  have hnA : ∀ p z, G.at p = some z → p ≠ .last → W'.heap[z]? = W.heap[z]? := fun p z hp hne => hg.block z (h.base p z hp).2 (fun e => hne (h.apart p .last z hp e.symm))
  have vn : ∀ z, v.ownBlock = some z → ∀ p, p ≠ .last → G.at p ≠ some z := fun z hz p hne hp => by
    rcases hl with e | e
    · exact hne (h.apart p .last z hp (e.symm.trans hz))
    · rw [e] at hz; cases hz; exact absurd (h.base p _ hp).2 (Nat.lt_irrefl _)
  have at' : ∀ p, p ≠ .last → ({ G with vT := v } : GB).at p = G.at p := fun p hne => by cases p <;> first | rfl | exact absurd rfl hne
  have hn := h.but.on (W' := W'.setCell ⟨G.X, 3, none⟩ v) (R' := fun p => p = .last ∨ p = .own) (fun p z hp hne => by
    have h1 : z ≠ G.X := fun e => hne (Or.inr (h.apart p .own z hp (by rw [e]; rfl)))
    rw [Below.heap_setCell _ _ _ _ h1]
    exact hnA p z hp (fun e => hne (Or.inl e)))
  have out : ∀ {p : Part}, p ≠ .last → p ≠ .own → ¬ (none' p ∨ (p = .last ∨ p = .own)) := fun h1 h3 h2 => h2.elim id (fun e => e.elim h1 h3)
  have hX : W'.heap[G.X]? = W.heap[G.X]? := hnA .own G.X rfl (by simp)
  have cX : ∀ o, W'.cell? ⟨G.X, o, none⟩ = W.cell? ⟨G.X, o, none⟩ := fun o => World.cell?_of_block (w := W) hX
  have cO : ∀ o, o ≠ 3 → (W'.setCell ⟨G.X, 3, none⟩ v).cell? ⟨G.X, o, none⟩ = W.cell? ⟨G.X, o, none⟩ := fun o hne => by
    rw [World.cell?_setCell_other _ _ _ _ (by simp <;> omega)]; exact cX o
  have hrow : (W'.setCell ⟨G.X, 3, none⟩ v).ownsRow B 22 1 v (lT ++ [u]).length (lT ++ [u]) := by
    rw [List.length_append, List.length_singleton]
    exact owns_on ho (fun z hz => Below.heap_setCell _ _ _ _ (fun e => vn z hz .own (by simp) (by rw [e]; rfl)))
  refine ⟨⟨fun _ => (cO 0 (by omega)).trans (h.but.x0 id), fun _ => (cO 1 (by omega)).trans (h.but.x1 id), fun _ => (cO 2 (by omega)).trans (h.but.x2 id), fun _ => World.cell?_setCell_same _ _ _ ((cX 3).trans (h.but.x3 id)), fun _ => (cO 4 (by omega)).trans (h.but.x4 id), fun _ => (cO 5 (by omega)).trans (h.but.x5 id),
    fun _ o => by rw [World.frozen?_setCell]; exact (World.frozen?_of_block (w := W) (a := ⟨G.X, o, none⟩) hX).trans (h.but.xz id o),
    fun _ => hn.rD (out (by simp) (by simp)), fun _ => hn.rN (out (by simp) (by simp)), fun _ => hn.rC (out (by simp) (by simp)), fun _ => hrow,
    fun i hi _ => hn.dsk i hi (out (by simp) (by simp)), fun _ _ _ => hn.off (out (by simp) (by simp)) (out (by simp) (by simp)) (out (by simp) (by simp))⟩, fun p q z hp hq => ?_, fun p z hp => ?_⟩
  · by_cases e1 : p = .last
    · by_cases e2 : q = .last
      · rw [e1, e2]
      · rw [e1] at hp; rw [at' q e2] at hq
        exact absurd hq (vn z hp q e2)
    · by_cases e2 : q = .last
      · rw [e2] at hq; rw [at' p e1] at hp
        exact absurd hp (vn z hq p e1)
      · rw [at' p e1] at hp; rw [at' q e2] at hq
        exact h.apart p q z hp hq
  · have hs : (W'.setCell ⟨G.X, 3, none⟩ v).heap.size = W'.heap.size := by simp [World.setCell]
    rw [hs]
    by_cases e1 : p = .last
    · rw [e1] at hp
      exact owns_lt ho z hp
    · rw [at' p e1] at hp
      have := h.base p z hp
      exact ⟨this.1, Nat.lt_of_lt_of_le this.2 sz⟩

/-- append onto an own row, as one step of a region that draws. -/
theorem step_append_own {P : Program} {ops : Array Oper} {o : Oper} {a : Act} {w : World} {K : Act → World → Prop} {Q : Exit → Act → World → Prop} {E : Prop}
    (hgd : o.guard = none) (s x : Operand) (t : TypeId) (ho : o.op = .call { callee := .builtin .append, args := #[s, x], argTypes := #[t, t] })
    (base : Nat) (e : TypeId) (i : TypeInfo) (z : Value) (size bytes : Nat) (ht : P.underlying t = some (.slice e)) (hi : P.info? e = some i) (hz : i.zero = some z)
    (hsize : i.size = size) (hby : i.bytes = bytes) (hzs : z.cells.size = size) (hsz : 0 < size)
    (v : Value) (n : Nat) (xs : List Value) (hs : a.eval s = v) (hown : w.ownsRow base e size v n xs)
    (ad : Addr) (m c : Nat) (news : List Value) (hx : a.eval x = .slice (some ad) m c) (hl : news.length = m * size) (hnews : ∀ j u, news[j]? = some u → w.cell? (ad.add j) = some u) (h1 : ∀ u ∈ news, u.oneCell' = true)
    (h63 : n + m ≤ maxLen) (hbytes : (n + m) * bytes ≤ 140737488355328) (hbase : base ≤ w.heap.size)
    (hK : ∀ v' w', w'.ownsRow base e size v' (n + m) (xs ++ news) → w.grownBy w' v.ownBlock → (v'.ownBlock = v.ownBlock ∨ v'.ownBlock = some w.heap.size) → K (a.put o.dst v') w') :
    if Region.wanted o (yielded ops a.tmps) = true then Oper.wp P o a w K Q else E := by
  have hw : Region.wanted o (yielded ops a.tmps) = true := by simp [Region.wanted, hgd]
  rw [if_pos hw]
  obtain ⟨v', w', hr, h2, h3, _, h5⟩ := run_append_own_at (P := P) w base t o.type e i z size bytes ht hi hz hsize hby hzs hsz v n xs hown ad m c news hl hnews h1 h63 hbytes hbase
  unfold Oper.wp execOp
  simp only [ho, resolve, invoke, builtin, Sem.run_bind, Sem.run_pure, Result.andThen_ok, List.map_toArray, List.map_cons, List.map_nil, hs, hx, hr]
  exact hK v' w' h2 h3 h5
end Go.Proofs.Ytdplffhieekfaaa
