/-
  stampslaw's own world: a desk more; a list that came out more.
-/
import Derived.Test.YtdplffhieekfaaaDoorLawAt
namespace Go.Proofs.YtdplffhieekfaaaDoor
open Go.RowKit

/-- A desk more. -/
theorem DW.more {W W2 W3 : World} {L : LB} {s : Nat → Dk} {Ls Ms : List Value} {c : Int} (h0 : DW W L s Ls Ms c) (hb : Below W.heap.size W W2) (hn12 : L.n < 12) {k r : Nat} {s' : Dk} (hk : W.heap.size ≤ k) (hr : W.heap.size ≤ r) (hkr : k ≠ r) (hd : DeskAt W2 k none s') (hf : RefAt W2 r s') (hfr : s'.Fresh)
    {v : Value} {Z : Obj} (ho : W3.ownsRow (L.B + 1) 86 2 v (L.n + 1) (pairCells L.dk L.rf L.n ++ [.pointer (some ⟨k, 0, none⟩), .pointer (some ⟨r, 0, none⟩)])) (hg : (W2.alloc Z).grownBy W3 L.vD.ownBlock) (hl : v.ownBlock = L.vD.ownBlock ∨ v.ownBlock = some (W2.alloc Z).heap.size) :
    DW (W3.setCell ⟨L.B, 0, none⟩ v) { L with vD := v, dk := put L.dk L.n k, ch := put L.ch L.n none, rf := put L.rf L.n r, n := L.n + 1 } (put s L.n s') Ls Ms c ∧
      Went W (W3.setCell ⟨L.B, 0, none⟩ v) L { L with vD := v, dk := put L.dk L.n k, ch := put L.ch L.n none, rf := put L.rf L.n r, n := L.n + 1 } := by
  obtain ⟨h, _⟩ := h0.below hb
  have sz2 := hb.size
  have hkl : k < W2.heap.size := by obtain ⟨_, made, _, hcl, _⟩ := hd; exact block_lt_of_cell hcl.c0
  have hrl : r < W2.heap.size := block_lt_of_cell hf.c0
  have kk0 := grew_keep (B := L.B) (o := 0) (v' := v) hg
  have kk : Keep (fun i => ∃ p, (p = .own ∨ p = .desks) ∧ L.at p = some i) W2 (W3.setCell ⟨L.B, 0, none⟩ v) := kk0.mono (fun i _ e => e.elim (fun e => ⟨.own, Or.inl rfl, by rw [e]; rfl⟩) (fun e => ⟨.desks, Or.inr rfl, e⟩))
  have hn := h.kept _ kk
  have szs := kk.size
  have il := owns_in (h.but.rD id)
  have il' := owns_in ho
  have hBlt : L.B < W2.heap.size := (h.base .own _ rfl).2
  have hB0 : L.B < W.heap.size := (h0.base .own _ rfl).2
  have hW3 : W2.heap.size < W3.heap.size := by have := hg.size; simp at this; omega
  have nk : ∀ p, L.at p ≠ some k := fun p hp => by have := (h0.base p k hp).2; omega
  have nr : ∀ p, L.at p ≠ some r := fun p hp => by have := (h0.base p r hp).2; omega
  have hd4 : DeskAt (W3.setCell ⟨L.B, 0, none⟩ v) k none s' := deskAt_stay hd (kk.block k hkl (fun ⟨p, _, e⟩ => nk p e)) (fun x hx => by cases hx)
  have hf4 : RefAt (W3.setCell ⟨L.B, 0, none⟩ v) r s' := refAt_stay hf (kk.block r hrl (fun ⟨p, _, e⟩ => nr p e))
  have hB2 : W3.heap[L.B]? = W2.heap[L.B]? := by
    have e1 := hg.block L.B (by simp; omega) (fun e => by have := (il L.B e.symm).1; omega)
    rw [e1]; exact heap_alloc_old _ _ hBlt
  have cB2 : ∀ o, W3.cell? ⟨L.B, o, none⟩ = W2.cell? ⟨L.B, o, none⟩ := fun o => World.cell?_of_block (w := W2) hB2
  have cO : ∀ o, o ≠ 0 → (W3.setCell ⟨L.B, 0, none⟩ v).cell? ⟨L.B, o, none⟩ = W2.cell? ⟨L.B, o, none⟩ := fun o hne => by
    rw [World.cell?_setCell_other _ _ _ _ (by simp <;> omega)]; exact cB2 o
  have out : ∀ {p : LP}, p ≠ .own → p ≠ .desks → ¬ (p = .own ∨ p = .desks) := fun a b e => e.elim a b
  have vn : ∀ x, v.ownBlock = some x → L.at .desks = some x ∨ W2.heap.size < x := fun x hx => by
    rcases hl with e | e
    · exact Or.inl (e.symm.trans hx)
    · rw [e] at hx; cases hx; right; simp
  generalize hL' : ({ L with vD := v, dk := put L.dk L.n k, ch := put L.ch L.n none, rf := put L.rf L.n r, n := L.n + 1 } : LB) = L' at *
  have cls : ∀ p x, L'.at p = some x → (p = .desks ∧ v.ownBlock = some x) ∨ (p = .desk L.n ∧ x = k) ∨ (p = .ref L.n ∧ x = r) ∨ (p ≠ .desks ∧ L.at p = some x) := fun p x hp => by
    subst hL'
    cases p with
    | desks => exact Or.inl ⟨rfl, hp⟩
    | desk i =>
      have hp' : (if i < L.n + 1 then some (put L.dk L.n k i) else none) = some x := hp
      by_cases e : i = L.n
      · subst e; rw [if_pos (Nat.lt_succ_self _), put_same] at hp'; cases hp'; exact Or.inr (Or.inl ⟨rfl, rfl⟩)
      · by_cases hi : i < L.n
        · rw [if_pos (by omega), put_other _ _ _ e] at hp'
          exact Or.inr (Or.inr (Or.inr ⟨by simp, (if_pos hi).trans hp'⟩))
        · rw [if_neg (by omega)] at hp'; cases hp'
    | chan i =>
      have hp' : (if i < L.n + 1 then put L.ch L.n none i else none) = some x := hp
      by_cases e : i = L.n
      · subst e; rw [if_pos (Nat.lt_succ_self _), put_same] at hp'; cases hp'
      · by_cases hi : i < L.n
        · rw [if_pos (by omega), put_other _ _ _ e] at hp'
          exact Or.inr (Or.inr (Or.inr ⟨by simp, (if_pos hi).trans hp'⟩))
        · rw [if_neg (by omega)] at hp'; cases hp'
    | ref i =>
      have hp' : (if i < L.n + 1 then some (put L.rf L.n r i) else none) = some x := hp
      by_cases e : i = L.n
      · subst e; rw [if_pos (Nat.lt_succ_self _), put_same] at hp'; cases hp'; exact Or.inr (Or.inr (Or.inl ⟨rfl, rfl⟩))
      · by_cases hi : i < L.n
        · rw [if_pos (by omega), put_other _ _ _ e] at hp'
          exact Or.inr (Or.inr (Or.inr ⟨by simp, (if_pos hi).trans hp'⟩))
        · rw [if_neg (by omega)] at hp'; cases hp'
    | own => exact Or.inr (Or.inr (Or.inr ⟨by simp, hp⟩))
    | lists => exact Or.inr (Or.inr (Or.inr ⟨by simp, hp⟩))
    | marks => exact Or.inr (Or.inr (Or.inr ⟨by simp, hp⟩))
  have eB : L'.B = L.B := by rw [← hL']
  have elb : L'.lb = L.lb := by rw [← hL']
  have en : L'.n = L.n + 1 := by rw [← hL']
  have vk : ∀ (p q : LP) (x : Nat), p = .desks → v.ownBlock = some x → L.at q = some x → q ≠ .desks → False := fun p q x _ hv hq hne => by
    rcases vn x hv with e | e
    · exact hne (h.apart q .desks x hq e)
    · have := (h.base q x hq).2; omega
  refine ⟨⟨?_, fun p q x hp hq => ?_, fun p x hp => ?_, fun b hb => ?_, fun i hi => ?_, ?_⟩, ?_, eB, fun p x hp => ?_, fun x hx => Or.inl (elb ▸ hx), ?_⟩
  · subst hL'
    refine ⟨fun _ => World.cell?_setCell_same _ _ _ ((cB2 0).trans (h.but.x0 id)), fun _ => (cO 2 (by omega)).trans (h.but.x2 id), fun _ => (cO 3 (by omega)).trans (h.but.x3 id), fun _ => (cO 4 (by omega)).trans (h.but.x4 id), fun _ o => ?_, fun _ => ?_, fun _ => hn.rL (out (by simp) (by simp)), fun _ => hn.rM (out (by simp) (by simp)), fun i hi _ _ => ?_, fun i hi _ => ?_, hn.rds.len, hn.rds.read⟩
    · rw [World.frozen?_setCell]; exact (World.frozen?_of_block (w := W2) (a := ⟨L.B, o, none⟩) hB2).trans (h.but.xz id o)
    · show (W3.setCell ⟨L.B, 0, none⟩ v).ownsRow (L.B + 1) 86 2 v (L.n + 1) (pairCells (put L.dk L.n k) (put L.rf L.n r) (L.n + 1))
      rw [pairCells_succ, pairCells_put, put_same, put_same]
      exact owns_stay ho (fun z hz => Below.heap_setCell _ _ _ _ (fun e => by have := (il' z hz).1; simp at e; omega))
    · show DeskAt _ (put L.dk L.n k i) (put L.ch L.n none i) (put s L.n s' i)
      by_cases e : i = L.n
      · subst e; rw [put_same, put_same, put_same]; exact hd4
      · rw [put_other _ _ _ e, put_other _ _ _ e, put_other _ _ _ e]
        exact hn.dsk i (by have : i < L.n + 1 := hi; omega) (out (by simp) (by simp)) (out (by simp) (by simp))
    · show RefAt _ (put L.rf L.n r i) (put s L.n s' i)
      by_cases e : i = L.n
      · subst e; rw [put_same, put_same]; exact hf4
      · rw [put_other _ _ _ e, put_other _ _ _ e]
        exact hn.ref i (by have : i < L.n + 1 := hi; omega) (out (by simp) (by simp))
  · rcases cls p x hp with ⟨a1, a2⟩ | ⟨a1, a2⟩ | ⟨a1, a2⟩ | ⟨a1, a2⟩ <;> rcases cls q x hq with ⟨b1, b2⟩ | ⟨b1, b2⟩ | ⟨b1, b2⟩ | ⟨b1, b2⟩
    · rw [a1, b1]
    · exfalso; subst b2; rcases vn _ a2 with e | e
      · exact nk _ e
      · omega
    · exfalso; subst b2; rcases vn _ a2 with e | e
      · exact nr _ e
      · omega
    · exact (vk p q x a1 a2 b2 b1).elim
    · exfalso; subst a2; rcases vn _ b2 with e | e
      · exact nk _ e
      · omega
    · rw [a1, b1]
    · exfalso; omega
    · subst a2; exact absurd b2 (nk q)
    · exfalso; subst a2; rcases vn _ b2 with e | e
      · exact nr _ e
      · omega
    · exfalso; omega
    · rw [a1, b1]
    · subst a2; exact absurd b2 (nr q)
    · exact (vk q p x b1 b2 a2 a1).elim
    · subst b2; exact absurd a2 (nk p)
    · subst b2; exact absurd a2 (nr p)
    · exact h.apart p q x a2 b2
  · rw [eB]
    have hs : (W3.setCell ⟨L.B, 0, none⟩ v).heap.size = W3.heap.size := by simp [World.setCell]
    rw [hs]
    rcases cls p x hp with ⟨a1, a2⟩ | ⟨a1, a2⟩ | ⟨a1, a2⟩ | ⟨a1, a2⟩
    · have := il' x a2; omega
    · omega
    · omega
    · have := h.base p x a2; omega
  · rw [elb] at hb
    obtain ⟨b1, b2, b3⟩ := h0.lists b hb
    refine ⟨by rw [eB]; exact b1, by omega, fun p hp => ?_⟩
    rcases cls p b hp with ⟨a1, a2⟩ | ⟨a1, a2⟩ | ⟨a1, a2⟩ | ⟨a1, a2⟩
    · rcases vn _ a2 with e | e
      · exact b3 _ e
      · omega
    · omega
    · omega
    · exact b3 p a2
  · rw [en] at hi
    by_cases e : i = L.n
    · subst e; rw [put_same]; exact hfr
    · rw [put_other _ _ _ e]; exact h.fresh i (by omega)
  · rw [en]; omega
  · exact (Keep.of_below hb).trans' kk (fun i _ ⟨p, _, e⟩ => ⟨p, e⟩)
  · rcases cls p x hp with ⟨a1, a2⟩ | ⟨a1, a2⟩ | ⟨a1, a2⟩ | ⟨a1, a2⟩
    · rcases vn _ a2 with e | e
      · exact Or.inl ⟨_, e⟩
      · right; omega
    · right; omega
    · right; omega
    · exact Or.inl ⟨p, a2⟩
  · exact (cO 1 (by omega)).trans (hb.cell (p := ⟨L.B, 1, none⟩) hB0)

/-- Four lists more. -/
theorem DW.listed {W W' : World} {L : LB} {s : Nat → Dk} {Ls Ms : List Value} {c : Int} (h : DW W L s Ls Ms c) {l : Value} (hl : ∀ g, l.ownBlock = some g → L.B < g ∧ (∀ p, L.at p ≠ some g) ∧ ¬ L.lb g)
    {x c1 : Int} {lv' mv' lc : Value} {m : Nat} {N4 : List Value} (hN : N4.length = 4) (hm : m ≤ 100000) (hK : KS W L.B L.lv L.mv l x c1 W' lv' mv' lc (Ls ++ N4) (Ms ++ List.replicate 4 (.int .u64 x)) m N4) :
    DW W' { L with lv := lv', mv := mv', lb := fun b => L.lb b ∨ InList W L.B l lv' mv' W' b } s (Ls ++ N4) (Ms ++ List.replicate 4 (.int .u64 x)) c1 := by
  have kk : Keep (fun i => (∃ p, (p = .own ∨ p = .lists ∨ p = .marks) ∧ L.at p = some i) ∨ l.ownBlock = some i) W W' := hK.keep.mono (fun i _ e => by
    rcases e with e | e | e | e
    · exact Or.inl ⟨.own, Or.inl rfl, by rw [e]; rfl⟩
    · exact Or.inl ⟨.lists, Or.inr (Or.inl rfl), e⟩
    · exact Or.inl ⟨.marks, Or.inr (Or.inr rfl), e⟩
    · exact Or.inr e)
  have hn := h.kept' _ (fun i => l.ownBlock = some i) (fun i e => (hl i e).2) kk
  have szs := kk.size
  have hB0 : L.B < W.heap.size := (h.base .own _ rfl).2
  have il := owns_in hK.lists
  have im := owns_in hK.marks
  have out : ∀ {p : LP}, p ≠ .own → p ≠ .lists → p ≠ .marks → ¬ (p = .own ∨ p = .lists ∨ p = .marks) := fun a b c e => e.elim a (fun e => e.elim b c)
  generalize hL' : ({ L with lv := lv', mv := mv', lb := fun b => L.lb b ∨ InList W L.B l lv' mv' W' b } : LB) = L' at *
  have cls : ∀ p y, L'.at p = some y → (p = .lists ∧ lv'.ownBlock = some y) ∨ (p = .marks ∧ mv'.ownBlock = some y) ∨ (p ≠ .lists ∧ p ≠ .marks ∧ L.at p = some y) := fun p y hp => by
    subst hL'
    cases p with
    | lists => exact Or.inl ⟨rfl, hp⟩
    | marks => exact Or.inr (Or.inl ⟨rfl, hp⟩)
    | _ => exact Or.inr (Or.inr ⟨by simp, by simp, hp⟩)
  have eB : L'.B = L.B := by rw [← hL']
  have en : L'.n = L.n := by rw [← hL']
  have elb : ∀ b, L'.lb b ↔ (L.lb b ∨ InList W L.B l lv' mv' W' b) := fun b => by rw [← hL']
  have nl : ∀ p y, lv'.ownBlock = some y → L.at p = some y → p = .lists := fun p y hy hp => by
    rcases hK.ol y hy with e | e
    · exact h.apart p .lists y hp e
    · have := (h.base p y hp).2; omega
  have nm : ∀ p y, mv'.ownBlock = some y → L.at p = some y → p = .marks := fun p y hy hp => by
    rcases hK.om y hy with e | e
    · exact h.apart p .marks y hp e
    · have := (h.base p y hp).2; omega
  refine ⟨?_, fun p q y hp hq => ?_, fun p y hp => ?_, fun b hb => ?_, fun i hi => h.fresh i (en ▸ hi), by rw [en]; exact h.n12⟩
  · subst hL'
    refine ⟨fun _ => (hK.cB 0 (by omega)).trans (h.but.x0 id), fun _ => hK.c2, fun _ => hK.c3, fun _ => hK.c4, fun _ => hK.fz, fun _ => hn.rD (out (by simp) (by simp) (by simp)), fun _ => hK.lists, fun _ => hK.marks, fun i hi _ _ => hn.dsk i hi (out (by simp) (by simp) (by simp)) (out (by simp) (by simp) (by simp)), fun i hi _ => hn.ref i hi (out (by simp) (by simp) (by simp)), ?_, fun j hj => ?_⟩
    · simp only [List.length_append, List.length_replicate, hN, hn.rds.len]
    · have hml := hn.rds.len
      by_cases hj0 : j < Ls.length
      · obtain ⟨a, n, cp, mk, e1, e2, e3, e4⟩ := hn.rds.read j hj0
        refine ⟨a, n, cp, mk, by rw [List.getElem?_append_left hj0]; exact e1, by rw [List.getElem?_append_left (by omega)]; exact e2, e3, fun k hk => ?_⟩
        obtain ⟨b, f1, f2, f3⟩ := e4 k hk
        exact ⟨b, f1, Or.inl f2, f3⟩
      · have hj4 : j < Ls.length + 4 := by rw [List.length_append, hN] at hj; exact hj
        have hjn : j - Ls.length < N4.length := by omega
        obtain ⟨a, n, cp, e1, e2, e3⟩ := hK.reads (N4[j - Ls.length]'hjn) (List.getElem_mem _)
        refine ⟨a, n, cp, x, by rw [List.getElem?_append_right (by omega), List.getElem?_eq_getElem hjn, e1], by rw [List.getElem?_append_right (by omega), List.getElem?_replicate, if_pos (by omega)], by omega, fun k hk => ?_⟩
        obtain ⟨b, f1, f2, f3⟩ := e3 k hk
        exact ⟨b, f1, Or.inr f2, f3⟩
  · rcases cls p y hp with ⟨a1, a2⟩ | ⟨a1, a2⟩ | ⟨a1, a3, a2⟩ <;> rcases cls q y hq with ⟨b1, b2⟩ | ⟨b1, b2⟩ | ⟨b1, b3, b2⟩
    · rw [a1, b1]
    · exact (hK.lm y a2 b2).elim
    · exact absurd (nl q y a2 b2) b1
    · exact (hK.lm y b2 a2).elim
    · rw [a1, b1]
    · exact absurd (nm q y a2 b2) b3
    · exact absurd (nl p y b2 a2) a1
    · exact absurd (nm p y b2 a2) a3
    · exact h.apart p q y a2 b2
  · rw [eB]
    rcases cls p y hp with ⟨a1, a2⟩ | ⟨a1, a2⟩ | ⟨a1, a3, a2⟩
    · have := il y a2; omega
    · have := im y a2; omega
    · have := h.base p y a2; omega
  · rw [eB]
    rcases (elb b).1 hb with hb | hb
    · obtain ⟨b1, b2, b3⟩ := h.lists b hb
      refine ⟨b1, by omega, fun p hp => ?_⟩
      rcases cls p b hp with ⟨a1, a2⟩ | ⟨a1, a2⟩ | ⟨a1, a3, a2⟩
      · rcases hK.ol b a2 with e | e
        · exact b3 .lists e
        · omega
      · rcases hK.om b a2 with e | e
        · exact b3 .marks e
        · omega
      · exact b3 p a2
    · refine ⟨?_, hb.lt, fun p hp => ?_⟩
      · rcases hb.old with e | e
        · exact (hl b e).1
        · omega
      · rcases cls p b hp with ⟨a1, a2⟩ | ⟨a1, a2⟩ | ⟨a1, a3, a2⟩
        · exact hb.lv a2
        · exact hb.mv a2
        · rcases hb.old with e | e
          · exact (hl b e).2.1 p a2
          · have := (h.base p b a2).2; omega
end Go.Proofs.YtdplffhieekfaaaDoor
