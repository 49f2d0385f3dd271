/-
  stampslaw's own world, in memory: its desks, each beside the document's, and the lists that came out.
-/
import Derived.Test.YtdplffhieekfaaaDoorBatchRow
namespace Go.Proofs.YtdplffhieekfaaaDoor
open Go.RowKit

inductive LP
  | own | desks | lists | marks
  | desk (k : Nat)
  | chan (k : Nat)
  | ref (k : Nat)

/-- The blocks of the law's world; lb: those of the lists that came out. -/
structure LB where
  B : Nat
  vD : Value
  lv : Value
  mv : Value
  dk : Nat → Nat
  ch : Nat → Option Nat
  rf : Nat → Nat
  n : Nat
  lb : Nat → Prop

def LB.at (L : LB) : LP → Option Nat
  | .own => some L.B
  | .desks => L.vD.ownBlock
  | .lists => L.lv.ownBlock
  | .marks => L.mv.ownBlock
  | .desk k => if k < L.n then some (L.dk k) else none
  | .chan k => if k < L.n then L.ch k else none
  | .ref k => if k < L.n then some (L.rf k) else none

def put {α : Type} (f : Nat → α) (k : Nat) (x : α) : Nat → α := fun i => if i = k then x else f i
theorem put_same {α : Type} (f : Nat → α) (k : Nat) (x : α) : put f k x k = x := if_pos rfl
theorem put_other {α : Type} (f : Nat → α) (k : Nat) (x : α) {i : Nat} (h : i ≠ k) : put f k x i = f i := if_neg h

def pairCells (dk rf : Nat → Nat) (n : Nat) : List Value := (List.range n).flatMap fun k => [.pointer (some ⟨dk k, 0, none⟩), .pointer (some ⟨rf k, 0, none⟩)]

theorem pairCells_succ (dk rf : Nat → Nat) (n : Nat) : pairCells dk rf (n + 1) = pairCells dk rf n ++ [.pointer (some ⟨dk n, 0, none⟩), .pointer (some ⟨rf n, 0, none⟩)] := by
  unfold pairCells
  rw [List.range_succ, List.flatMap_append]
  rfl

theorem pairCells_put (dk rf : Nat → Nat) (n a b : Nat) : pairCells (put dk n a) (put rf n b) n = pairCells dk rf n := by
  have key : ∀ m, m ≤ n → pairCells (put dk n a) (put rf n b) m = pairCells dk rf m := by
    intro m
    induction m with
    | zero => intro _; rfl
    | succ m ih =>
      intro hm
      rw [pairCells_succ, pairCells_succ, ih (by omega), put_other _ _ _ (by omega), put_other _ _ _ (by omega)]
  exact key n (Nat.le_refl _)

theorem pairCells_get (dk rf : Nat → Nat) (n k : Nat) (hk : k < n) : (pairCells dk rf n)[k * 2]? = some (.pointer (some ⟨dk k, 0, none⟩)) ∧ (pairCells dk rf n)[k * 2 + 1]? = some (.pointer (some ⟨rf k, 0, none⟩)) := by
  have hlen : ∀ m, (pairCells dk rf m).length = m * 2 := by
    intro m
    induction m with
    | zero => rfl
    | succ m ih => rw [pairCells_succ, List.length_append, ih]; simp; omega
  induction n with
  | zero => omega
  | succ n ih =>
    rw [pairCells_succ]
    by_cases h : k < n
    · obtain ⟨h1, h2⟩ := ih h
      rw [List.getElem?_append_left (by rw [hlen]; omega), List.getElem?_append_left (by rw [hlen]; omega)]
      exact ⟨h1, h2⟩
    · obtain rfl : k = n := by omega
      rw [List.getElem?_append_right (by rw [hlen]; omega), List.getElem?_append_right (by rw [hlen]; omega), hlen]
      constructor
      · simp
      · rw [show k * 2 + 1 - k * 2 = 1 by omega]; rfl

/-- The lists that came out read as their marks. -/
structure Reads (W : World) (L : LB) (Ls Ms : List Value) : Prop where
  len : Ms.length = Ls.length
  read : ∀ j, j < Ls.length → ∃ a n cp m, Ls[j]? = some (.slice a n cp) ∧ Ms[j]? = some (.int .u64 m) ∧ n ≤ 100000 ∧ ∀ k, k < n → ∃ b, a = some ⟨b, 0, none⟩ ∧ L.lb b ∧ W.cell? ⟨b, k, none⟩ = some (.int .u64 m)

/-- The law's world in memory, but for the parts of R. -/
structure DWBut (R : LP → Prop) (W : World) (L : LB) (s : Nat → Dk) (Ls Ms : List Value) (c : Int) : Prop where
  x0 : ¬ R .own → W.cell? ⟨L.B, 0, none⟩ = some L.vD
  x2 : ¬ R .own → W.cell? ⟨L.B, 2, none⟩ = some L.lv
  x3 : ¬ R .own → W.cell? ⟨L.B, 3, none⟩ = some L.mv
  x4 : ¬ R .own → W.cell? ⟨L.B, 4, none⟩ = some (.int .u64 c)
  xz : ¬ R .own → ∀ o, W.frozen? ⟨L.B, o, none⟩ = false
  rD : ¬ R .desks → W.ownsRow (L.B + 1) 86 2 L.vD L.n (pairCells L.dk L.rf L.n)
  rL : ¬ R .lists → W.ownsRow (L.B + 1) 40 1 L.lv Ls.length Ls
  rM : ¬ R .marks → W.ownsRow (L.B + 1) 25 1 L.mv Ms.length Ms
  dsk : ∀ k, k < L.n → ¬ R (.desk k) → ¬ R (.chan k) → DeskAt W (L.dk k) (L.ch k) (s k)
  ref : ∀ k, k < L.n → ¬ R (.ref k) → RefAt W (L.rf k) (s k)
  rds : Reads W L Ls Ms

def no' : LP → Prop := fun _ => False

structure DW (W : World) (L : LB) (s : Nat → Dk) (Ls Ms : List Value) (c : Int) : Prop where
  but : DWBut no' W L s Ls Ms c
  apart : ∀ p q x, L.at p = some x → L.at q = some x → p = q
  base : ∀ p x, L.at p = some x → L.B ≤ x ∧ x < W.heap.size
  lists : ∀ b, L.lb b → L.B < b ∧ b < W.heap.size ∧ ∀ p, L.at p ≠ some b
  fresh : ∀ k, k < L.n → (s k).Fresh
  n12 : L.n ≤ 12

theorem deskAt_stay {w w' : World} {b : Nat} {c : Option Nat} {s : Dk} (h : DeskAt w b c s) (hb : w'.heap[b]? = w.heap[b]?) (hc : ∀ k, c = some k → w'.heap[k]? = w.heap[k]?) : DeskAt w' b c s := by
  obtain ⟨ok, made, hm, hcl, hr⟩ := h
  have ec : ∀ o, w'.cell? ⟨b, o, none⟩ = w.cell? ⟨b, o, none⟩ := fun o => World.cell?_of_block (w := w) hb
  refine ⟨ok, made, hm, ⟨(ec 0).trans hcl.c0, (ec 1).trans hcl.c1, (ec 2).trans hcl.c2, (ec 3).trans hcl.c3, (ec 4).trans hcl.c4, (ec 5).trans hcl.c5, (ec 6).trans hcl.c6, (ec 7).trans hcl.c7, fun o => (World.frozen?_of_block (w := w) (a := ⟨b, o, none⟩) hb).trans (hcl.fz o)⟩, ?_⟩
  cases c with
  | none => exact hr
  | some k =>
    obtain ⟨buf, sn, rc, h1, h2⟩ := hr
    exact ⟨buf, sn, rc, (hc k rfl).trans h1, h2⟩

theorem refAt_stay {w w' : World} {b : Nat} {s : Dk} (h : RefAt w b s) (hb : w'.heap[b]? = w.heap[b]?) : RefAt w' b s := by
  have ec : ∀ o, w'.cell? ⟨b, o, none⟩ = w.cell? ⟨b, o, none⟩ := fun o => World.cell?_of_block (w := w) hb
  exact ⟨(ec 0).trans h.c0, (ec 1).trans h.c1, (ec 2).trans h.c2, (ec 3).trans h.c3, (ec 4).trans h.c4, (ec 5).trans h.c5, (ec 6).trans h.c6, fun o => (World.frozen?_of_block (w := w) (a := ⟨b, o, none⟩) hb).trans (h.fz o)⟩

/-- What else was written lies in parts of R', or in X, which is none of the law's. -/
theorem DW.kept' {W W' : World} {L : LB} {s : Nat → Dk} {Ls Ms : List Value} {c : Int} (h : DW W L s Ls Ms c) (R' : LP → Prop) (X : Nat → Prop) (hX : ∀ i, X i → (∀ p, L.at p ≠ some i) ∧ ¬ L.lb i) (hk : Keep (fun i => (∃ p, R' p ∧ L.at p = some i) ∨ X i) W W') : DWBut R' W' L s Ls Ms c := by
  have hb : ∀ p x, L.at p = some x → ¬ R' p → W'.heap[x]? = W.heap[x]? := fun p x hp hn => hk.block x (h.base p x hp).2 (fun e => e.elim (fun ⟨q, hq, e⟩ => hn (h.apart q p x e hp ▸ hq)) (fun e => (hX x e).1 p hp))
  have hl : ∀ b, L.lb b → W'.heap[b]? = W.heap[b]? := fun b hb => hk.block b (h.lists b hb).2.1 (fun e => e.elim (fun ⟨q, _, e⟩ => (h.lists b hb).2.2 q e) (fun e => (hX b e).2 hb))
  have hc : ∀ p x o, L.at p = some x → ¬ R' p → W'.cell? ⟨x, o, none⟩ = W.cell? ⟨x, o, none⟩ := fun p x o h1 h2 => World.cell?_of_block (w := W) (hb p x h1 h2)
  refine ⟨fun n => (hc .own _ _ rfl n).trans (h.but.x0 id), fun n => (hc .own _ _ rfl n).trans (h.but.x2 id), fun n => (hc .own _ _ rfl n).trans (h.but.x3 id), fun n => (hc .own _ _ rfl n).trans (h.but.x4 id),
    fun n o => (World.frozen?_of_block (w := W) (a := ⟨L.B, o, none⟩) (hb .own _ rfl n)).trans (h.but.xz id o),
    fun n => owns_stay (h.but.rD id) (fun x hx => hb .desks x hx n), fun n => owns_stay (h.but.rL id) (fun x hx => hb .lists x hx n), fun n => owns_stay (h.but.rM id) (fun x hx => hb .marks x hx n),
    fun k hk' n1 n2 => deskAt_stay (h.but.dsk k hk' id id) (hb (.desk k) _ (if_pos hk') n1) (fun x hx => hb (.chan k) x ((if_pos hk').trans hx) n2),
    fun k hk' n1 => refAt_stay (h.but.ref k hk' id) (hb (.ref k) _ (if_pos hk') n1), h.but.rds.len, fun j hj => ?_⟩
  obtain ⟨a, n, cp, m, e1, e2, e3, e4⟩ := h.but.rds.read j hj
  refine ⟨a, n, cp, m, e1, e2, e3, fun k hk' => ?_⟩
  obtain ⟨b, f1, f2, f3⟩ := e4 k hk'
  exact ⟨b, f1, f2, (World.cell?_of_block (w := W) (hl b f2)).trans f3⟩

theorem DW.kept {W W' : World} {L : LB} {s : Nat → Dk} {Ls Ms : List Value} {c : Int} (h : DW W L s Ls Ms c) (R' : LP → Prop) (hk : Keep (fun i => ∃ p, R' p ∧ L.at p = some i) W W') : DWBut R' W' L s Ls Ms c :=
  h.kept' R' (fun _ => False) (fun _ e => e.elim) (hk.mono (fun _ _ e => Or.inl e))

/-- What became of the law's world and all else. -/
structure Went (W W' : World) (L L' : LB) : Prop where
  keep : Keep (fun i => ∃ p, L.at p = some i) W W'
  B : L'.B = L.B
  newAt : ∀ p x, L'.at p = some x → (∃ q, L.at q = some x) ∨ W.heap.size ≤ x
  newLb : ∀ x, L'.lb x → L.lb x ∨ W.heap.size ≤ x
  c1 : W'.cell? ⟨L.B, 1, none⟩ = W.cell? ⟨L.B, 1, none⟩

theorem Went.trans {W W1 W2 : World} {L L1 L2 : LB} (a : Went W W1 L L1) (b : Went W1 W2 L1 L2) : Went W W2 L L2 := by
  refine ⟨a.keep.trans' b.keep (fun i hi ⟨p, hp⟩ => ?_), b.B.trans a.B, fun p x hp => ?_, fun x hx => ?_, ?_⟩
  · rcases a.newAt p i hp with h | h
    · exact h
    · omega
  · rcases b.newAt p x hp with ⟨q, hq⟩ | h
    · exact a.newAt q x hq
    · exact Or.inr (Nat.le_trans a.keep.size h)
  · rcases b.newLb x hx with h | h
    · exact a.newLb x h
    · exact Or.inr (Nat.le_trans a.keep.size h)
  · have := b.c1
    rw [a.B] at this
    exact this.trans a.c1

/-- Nothing of the law's world was written. -/
theorem DW.below {W W' : World} {L : LB} {s : Nat → Dk} {Ls Ms : List Value} {c : Int} (h : DW W L s Ls Ms c) (hb : Below W.heap.size W W') : DW W' L s Ls Ms c ∧ Went W W' L L := by
  have hk : Keep (fun i => ∃ p, no' p ∧ L.at p = some i) W W' := Keep.of_below hb
  refine ⟨⟨h.kept no' hk, h.apart, fun p x hp => ⟨(h.base p x hp).1, Nat.lt_of_lt_of_le (h.base p x hp).2 hb.size⟩, fun b hl => ⟨(h.lists b hl).1, Nat.lt_of_lt_of_le (h.lists b hl).2.1 hb.size, (h.lists b hl).2.2⟩, h.fresh, h.n12⟩, Keep.of_below hb, rfl, fun p x hp => Or.inl ⟨p, hp⟩, fun x hx => Or.inl hx, hb.cell (p := ⟨L.B, 1, none⟩) (h.base .own _ rfl).2⟩

/-- A desk was asked, and the document's. -/
theorem DW.desked {W W1 W2 : World} {L : LB} {s : Nat → Dk} {Ls Ms : List Value} {c : Int} (h : DW W L s Ls Ms c) {k : Nat} (hk : k < L.n) {c' : Option Nat} {s' : Dk} (hc : c' = L.ch k ∨ ∃ j, W.heap.size ≤ j ∧ c' = some j) (hd : DeskAt W1 (L.dk k) c' s')
    (k1 : Keep (fun i => i = L.dk k ∨ L.ch k = some i) W W1) (hr : RefAt W2 (L.rf k) s') (k2 : Keep (fun i => i = L.rf k) W1 W2) (hf : s'.Fresh) :
    DW W2 { L with ch := put L.ch k c' } (put s k s') Ls Ms c ∧ Went W W2 L { L with ch := put L.ch k c' } := by
  have aD : L.at (.desk k) = some (L.dk k) := if_pos hk
  have aR : L.at (.ref k) = some (L.rf k) := if_pos hk
  have aC : ∀ x, L.ch k = some x → L.at (.chan k) = some x := fun x hx => (if_pos hk).trans hx
  have kk : Keep (fun i => ∃ p, (p = .desk k ∨ p = .chan k ∨ p = .ref k) ∧ L.at p = some i) W W2 := by
    refine (k1.mono (T := fun i => ∃ p, (p = .desk k ∨ p = .chan k ∨ p = .ref k) ∧ L.at p = some i) (fun i _ e => ?_)).trans' k2 (fun i _ e => ⟨.ref k, Or.inr (Or.inr rfl), e ▸ aR⟩)
    rcases e with e | e
    · exact ⟨.desk k, Or.inl rfl, e ▸ aD⟩
    · exact ⟨.chan k, Or.inr (Or.inl rfl), aC i e⟩
  have hn := h.kept _ kk
  have szs := kk.size
  have sz1 := k1.size
  have hc'lt : ∀ x, c' = some x → x < W1.heap.size := fun x hx => by
    obtain ⟨_, made, _, _, hrd⟩ := hd
    rw [hx] at hrd
    obtain ⟨buf, sn, rc, hch, _⟩ := hrd
    exact (Array.getElem?_eq_some_iff.1 hch).1
  have hcn : ∀ x, c' = some x → ∀ p, L.at p = some x → p = .chan k := fun x hx p hp => by
    rcases hc with e | ⟨j, hj, e⟩
    · exact h.apart p (.chan k) x hp (aC x (e.symm.trans hx))
    · rw [e] at hx; cases hx
      have := (h.base p _ hp).2; omega
  have hd2 : DeskAt W2 (L.dk k) c' s' := by
    refine deskAt_stay hd (k2.block _ (Nat.lt_of_lt_of_le (h.base _ _ aD).2 sz1) (fun e => ?_)) (fun x hx => k2.block x (hc'lt x hx) (fun e => ?_))
    · have e' : L.dk k = L.rf k := e
      have := h.apart (.desk k) (.ref k) _ aD (e' ▸ aR)
      cases this
    · have e' : x = L.rf k := e
      have := hcn x hx (.ref k) (e' ▸ aR)
      cases this
  have out : ∀ {p : LP}, p ≠ .desk k → p ≠ .chan k → p ≠ .ref k → ¬ (p = .desk k ∨ p = .chan k ∨ p = .ref k) := fun a b c e => e.elim a (fun e => e.elim b c)
  have at' : ∀ p, p ≠ .chan k → ({ L with ch := put L.ch k c' } : LB).at p = L.at p := fun p hne => by
    cases p with
    | chan i =>
      have hi : i ≠ k := fun e => hne (by rw [e])
      show (if i < L.n then put L.ch k c' i else none) = (if i < L.n then L.ch i else none)
      rw [put_other _ _ _ hi]
    | _ => rfl
  have atc : ({ L with ch := put L.ch k c' } : LB).at (.chan k) = c' := by
    show (if k < L.n then put L.ch k c' k else none) = c'
    rw [if_pos hk, put_same]
  refine ⟨⟨⟨fun _ => hn.x0 (out (by simp) (by simp) (by simp)), fun _ => hn.x2 (out (by simp) (by simp) (by simp)), fun _ => hn.x3 (out (by simp) (by simp) (by simp)), fun _ => hn.x4 (out (by simp) (by simp) (by simp)), fun _ => hn.xz (out (by simp) (by simp) (by simp)), fun _ => hn.rD (out (by simp) (by simp) (by simp)), fun _ => hn.rL (out (by simp) (by simp) (by simp)), fun _ => hn.rM (out (by simp) (by simp) (by simp)), fun i hi _ _ => ?_, fun i hi _ => ?_, hn.rds.len, hn.rds.read⟩, fun p q x hp hq => ?_, fun p x hp => ?_, fun b hb => ?_, fun i hi => ?_, h.n12⟩, kk.mono (fun i _ ⟨p, _, e⟩ => ⟨p, e⟩), rfl, fun p x hp => ?_, fun x hx => Or.inl hx, ?_⟩
  · show DeskAt W2 (L.dk i) (put L.ch k c' i) (put s k s' i)
    by_cases e : i = k
    · subst e; rw [put_same, put_same]; exact hd2
    · rw [put_other _ _ _ e, put_other _ _ _ e]
      exact hn.dsk i hi (out (by simpa using e) (by simp) (by simp)) (out (by simp) (by simpa using e) (by simp))
  · show RefAt W2 (L.rf i) (put s k s' i)
    by_cases e : i = k
    · subst e; rw [put_same]; exact hr
    · rw [put_other _ _ _ e]
      exact hn.ref i hi (out (by simp) (by simp) (by simpa using e))
  · by_cases e1 : p = .chan k
    · by_cases e2 : q = .chan k
      · rw [e1, e2]
      · rw [e1, atc] at hp; rw [at' q e2] at hq
        exact absurd (hcn x hp q hq) e2
    · by_cases e2 : q = .chan k
      · rw [e2, atc] at hq; rw [at' p e1] at hp
        exact absurd (hcn x hq p hp) e1
      · rw [at' p e1] at hp; rw [at' q e2] at hq
        exact h.apart p q x hp hq
  · show L.B ≤ x ∧ _
    by_cases e1 : p = .chan k
    · rw [e1, atc] at hp
      refine ⟨?_, Nat.lt_of_lt_of_le (hc'lt x hp) k2.size⟩
      rcases hc with e | ⟨j, hj, e⟩
      · exact (h.base (.chan k) x (aC x (e.symm.trans hp))).1
      · rw [e] at hp; cases hp
        have := (h.base .own _ rfl).2; omega
    · rw [at' p e1] at hp
      exact ⟨(h.base p x hp).1, Nat.lt_of_lt_of_le (h.base p x hp).2 szs⟩
  · obtain ⟨b1, b2, b3⟩ := h.lists b hb
    refine ⟨b1, Nat.lt_of_lt_of_le b2 szs, fun p hp => ?_⟩
    by_cases e1 : p = .chan k
    · rw [e1, atc] at hp
      rcases hc with e | ⟨j, hj, e⟩
      · exact b3 (.chan k) (aC b (e.symm.trans hp))
      · rw [e] at hp; cases hp; omega
    · rw [at' p e1] at hp; exact b3 p hp
  · show (put s k s' i).Fresh
    by_cases e : i = k
    · subst e; rw [put_same]; exact hf
    · rw [put_other _ _ _ e]; exact h.fresh i hi
  · by_cases e1 : p = .chan k
    · rw [e1, atc] at hp
      rcases hc with e | ⟨j, hj, e⟩
      · exact Or.inl ⟨.chan k, aC x (e.symm.trans hp)⟩
      · rw [e] at hp; cases hp; exact Or.inr hj
    · rw [at' p e1] at hp; exact Or.inl ⟨p, hp⟩
  · exact kk.cell (p := ⟨L.B, 1, none⟩) (h.base .own _ rfl).2 (fun ⟨p, hp, e⟩ => by
      have := h.apart p .own L.B e rfl
      subst this
      rcases hp with hp | hp | hp <;> cases hp)
end Go.Proofs.YtdplffhieekfaaaDoor
