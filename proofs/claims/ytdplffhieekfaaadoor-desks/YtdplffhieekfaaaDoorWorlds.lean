/-
  stampslaw's own world, in memory: its desks, each beside the document's, and the lists that came out.
  stampslaw's own world: a desk more; a list that came out more.
  What a desk answers, and the document's: one answer each, whatever was asked; the law's world between two steps.
  stampslaw's look at the lists that came out, in its own world; the world at the start; between two steps of a script.
  stampslaw: which desk a step speaks of, in memory.
-/
import Derived.Test.YtdplffhieekfaaaDoorBatchRow
namespace Go.Proofs.YtdplffhieekfaaaDoor
open Go.RowKit

inductive LP
  | own | desks | lists | marks
  | desk (k : Nat)
  | chan (k : Nat)
  | ref (k : Nat)

/-- The blocks of the law's world; lb: those of the lists that came out. -/
structure LB where
  B : Nat
  vD : Value
  lv : Value
  mv : Value
  dk : Nat → Nat
  ch : Nat → Option Nat
  rf : Nat → Nat
  n : Nat
  lb : Nat → Prop

def LB.at (L : LB) : LP → Option Nat
  | .own => some L.B
  | .desks => L.vD.ownBlock
  | .lists => L.lv.ownBlock
  | .marks => L.mv.ownBlock
  | .desk k => if k < L.n then some (L.dk k) else none
  | .chan k => if k < L.n then L.ch k else none
  | .ref k => if k < L.n then some (L.rf k) else none

def put {α : Type} (f : Nat → α) (k : Nat) (x : α) : Nat → α := fun i => if i = k then x else f i
theorem put_same {α : Type} (f : Nat → α) (k : Nat) (x : α) : put f k x k = x := if_pos rfl
theorem put_other {α : Type} (f : Nat → α) (k : Nat) (x : α) {i : Nat} (h : i ≠ k) : put f k x i = f i := if_neg h

def pairCells (dk rf : Nat → Nat) (n : Nat) : List Value := (List.range n).flatMap fun k => [.pointer (some ⟨dk k, 0, none⟩), .pointer (some ⟨rf k, 0, none⟩)]

theorem pairCells_succ (dk rf : Nat → Nat) (n : Nat) : pairCells dk rf (n + 1) = pairCells dk rf n ++ [.pointer (some ⟨dk n, 0, none⟩), .pointer (some ⟨rf n, 0, none⟩)] := by
  unfold pairCells
  rw [List.range_succ, List.flatMap_append]
  rfl

theorem pairCells_put (dk rf : Nat → Nat) (n a b : Nat) : pairCells (put dk n a) (put rf n b) n = pairCells dk rf n := by
  have key : ∀ m, m ≤ n → pairCells (put dk n a) (put rf n b) m = pairCells dk rf m := by
    intro m
    induction m with
    | zero => intro _; rfl
    | succ m ih =>
      intro hm
      rw [pairCells_succ, pairCells_succ, ih (by omega), put_other _ _ _ (by omega), put_other _ _ _ (by omega)]
  exact key n (Nat.le_refl _)

theorem pairCells_get (dk rf : Nat → Nat) (n k : Nat) (hk : k < n) : (pairCells dk rf n)[k * 2]? = some (.pointer (some ⟨dk k, 0, none⟩)) ∧ (pairCells dk rf n)[k * 2 + 1]? = some (.pointer (some ⟨rf k, 0, none⟩)) := by
  have hlen : ∀ m, (pairCells dk rf m).length = m * 2 := by
    intro m
    induction m with
    | zero => rfl
    | succ m ih => rw [pairCells_succ, List.length_append, ih]; simp; omega
  induction n with
  | zero => omega
  | succ n ih =>
    rw [pairCells_succ]
    by_cases h : k < n
    · obtain ⟨h1, h2⟩ := ih h
      rw [List.getElem?_append_left (by rw [hlen]; omega), List.getElem?_append_left (by rw [hlen]; omega)]
      exact ⟨h1, h2⟩
    · obtain rfl : k = n := by omega
      rw [List.getElem?_append_right (by rw [hlen]; omega), List.getElem?_append_right (by rw [hlen]; omega), hlen]
      constructor
      · simp
      · rw [show k * 2 + 1 - k * 2 = 1 by omega]; rfl

/-- The lists that came out read as their marks. -/
structure Reads (W : World) (L : LB) (Ls Ms : List Value) : Prop where
  len : Ms.length = Ls.length
  read : ∀ j, j < Ls.length → ∃ a n cp m, Ls[j]? = some (.slice a n cp) ∧ Ms[j]? = some (.int .u64 m) ∧ n ≤ 100000 ∧ ∀ k, k < n → ∃ b, a = some ⟨b, 0, none⟩ ∧ L.lb b ∧ W.cell? ⟨b, k, none⟩ = some (.int .u64 m)

/-- The law's world in memory, but for the parts of R. -/
structure DWBut (R : LP → Prop) (W : World) (L : LB) (s : Nat → Dk) (Ls Ms : List Value) (c : Int) : Prop where
  x0 : ¬ R .own → W.cell? ⟨L.B, 0, none⟩ = some L.vD
  x2 : ¬ R .own → W.cell? ⟨L.B, 2, none⟩ = some L.lv
  x3 : ¬ R .own → W.cell? ⟨L.B, 3, none⟩ = some L.mv
  x4 : ¬ R .own → W.cell? ⟨L.B, 4, none⟩ = some (.int .u64 c)
  xz : ¬ R .own → ∀ o, W.frozen? ⟨L.B, o, none⟩ = false
  rD : ¬ R .desks → W.ownsRow (L.B + 1) 86 2 L.vD L.n (pairCells L.dk L.rf L.n)
  rL : ¬ R .lists → W.ownsRow (L.B + 1) 40 1 L.lv Ls.length Ls
  rM : ¬ R .marks → W.ownsRow (L.B + 1) 25 1 L.mv Ms.length Ms
  dsk : ∀ k, k < L.n → ¬ R (.desk k) → ¬ R (.chan k) → DeskAt W (L.dk k) (L.ch k) (s k)
  ref : ∀ k, k < L.n → ¬ R (.ref k) → RefAt W (L.rf k) (s k)
  rds : Reads W L Ls Ms

def no' : LP → Prop := fun _ => False

structure DW (W : World) (L : LB) (s : Nat → Dk) (Ls Ms : List Value) (c : Int) : Prop where
  but : DWBut no' W L s Ls Ms c
  apart : ∀ p q x, L.at p = some x → L.at q = some x → p = q
  base : ∀ p x, L.at p = some x → L.B ≤ x ∧ x < W.heap.size
  lists : ∀ b, L.lb b → L.B < b ∧ b < W.heap.size ∧ ∀ p, L.at p ≠ some b
  fresh : ∀ k, k < L.n → (s k).Fresh
  n12 : L.n ≤ 12

theorem deskAt_stay {w w' : World} {b : Nat} {c : Option Nat} {s : Dk} (h : DeskAt w b c s) (hb : w'.heap[b]? = w.heap[b]?) (hc : ∀ k, c = some k → w'.heap[k]? = w.heap[k]?) : DeskAt w' b c s := by
  obtain ⟨ok, made, hm, hcl, hr⟩ := h
  have ec : ∀ o, w'.cell? ⟨b, o, none⟩ = w.cell? ⟨b, o, none⟩ := fun o => World.cell?_of_block (w := w) hb
  refine ⟨ok, made, hm, ⟨(ec 0).trans hcl.c0, (ec 1).trans hcl.c1, (ec 2).trans hcl.c2, (ec 3).trans hcl.c3, (ec 4).trans hcl.c4, (ec 5).trans hcl.c5, (ec 6).trans hcl.c6, (ec 7).trans hcl.c7, fun o => (World.frozen?_of_block (w := w) (a := ⟨b, o, none⟩) hb).trans (hcl.fz o)⟩, ?_⟩
  cases c with
  | none => exact hr
  | some k =>
    obtain ⟨buf, sn, rc, h1, h2⟩ := hr
    exact ⟨buf, sn, rc, (hc k rfl).trans h1, h2⟩

theorem refAt_stay {w w' : World} {b : Nat} {s : Dk} (h : RefAt w b s) (hb : w'.heap[b]? = w.heap[b]?) : RefAt w' b s := by
  have ec : ∀ o, w'.cell? ⟨b, o, none⟩ = w.cell? ⟨b, o, none⟩ := fun o => World.cell?_of_block (w := w) hb
  exact ⟨(ec 0).trans h.c0, (ec 1).trans h.c1, (ec 2).trans h.c2, (ec 3).trans h.c3, (ec 4).trans h.c4, (ec 5).trans h.c5, (ec 6).trans h.c6, fun o => (World.frozen?_of_block (w := w) (a := ⟨b, o, none⟩) hb).trans (h.fz o)⟩

/-- What else was written lies in parts of R', or in X, which is none of the law's. -/
theorem DW.kept' {W W' : World} {L : LB} {s : Nat → Dk} {Ls Ms : List Value} {c : Int} (h : DW W L s Ls Ms c) (R' : LP → Prop) (X : Nat → Prop) (hX : ∀ i, X i → (∀ p, L.at p ≠ some i) ∧ ¬ L.lb i) (hk : Keep (fun i => (∃ p, R' p ∧ L.at p = some i) ∨ X i) W W') : DWBut R' W' L s Ls Ms c := by
  have hb : ∀ p x, L.at p = some x → ¬ R' p → W'.heap[x]? = W.heap[x]? := fun p x hp hn => hk.block x (h.base p x hp).2 (fun e => e.elim (fun ⟨q, hq, e⟩ => hn (h.apart q p x e hp ▸ hq)) (fun e => (hX x e).1 p hp))
  have hl : ∀ b, L.lb b → W'.heap[b]? = W.heap[b]? := fun b hb => hk.block b (h.lists b hb).2.1 (fun e => e.elim (fun ⟨q, _, e⟩ => (h.lists b hb).2.2 q e) (fun e => (hX b e).2 hb))
  have hc : ∀ p x o, L.at p = some x → ¬ R' p → W'.cell? ⟨x, o, none⟩ = W.cell? ⟨x, o, none⟩ := fun p x o h1 h2 => World.cell?_of_block (w := W) (hb p x h1 h2)
  refine ⟨fun n => (hc .own _ _ rfl n).trans (h.but.x0 id), fun n => (hc .own _ _ rfl n).trans (h.but.x2 id), fun n => (hc .own _ _ rfl n).trans (h.but.x3 id), fun n => (hc .own _ _ rfl n).trans (h.but.x4 id),
    fun n o => (World.frozen?_of_block (w := W) (a := ⟨L.B, o, none⟩) (hb .own _ rfl n)).trans (h.but.xz id o),
    fun n => owns_stay (h.but.rD id) (fun x hx => hb .desks x hx n), fun n => owns_stay (h.but.rL id) (fun x hx => hb .lists x hx n), fun n => owns_stay (h.but.rM id) (fun x hx => hb .marks x hx n),
    fun k hk' n1 n2 => deskAt_stay (h.but.dsk k hk' id id) (hb (.desk k) _ (if_pos hk') n1) (fun x hx => hb (.chan k) x ((if_pos hk').trans hx) n2),
    fun k hk' n1 => refAt_stay (h.but.ref k hk' id) (hb (.ref k) _ (if_pos hk') n1), h.but.rds.len, fun j hj => ?_⟩
  obtain ⟨a, n, cp, m, e1, e2, e3, e4⟩ := h.but.rds.read j hj
  refine ⟨a, n, cp, m, e1, e2, e3, fun k hk' => ?_⟩
  obtain ⟨b, f1, f2, f3⟩ := e4 k hk'
  exact ⟨b, f1, f2, (World.cell?_of_block (w := W) (hl b f2)).trans f3⟩

theorem DW.kept {W W' : World} {L : LB} {s : Nat → Dk} {Ls Ms : List Value} {c : Int} (h : DW W L s Ls Ms c) (R' : LP → Prop) (hk : Keep (fun i => ∃ p, R' p ∧ L.at p = some i) W W') : DWBut R' W' L s Ls Ms c :=
  h.kept' R' (fun _ => False) (fun _ e => e.elim) (hk.mono (fun _ _ e => Or.inl e))

/-- What became of the law's world and all else. -/
structure Went (W W' : World) (L L' : LB) : Prop where
  keep : Keep (fun i => ∃ p, L.at p = some i) W W'
  B : L'.B = L.B
  newAt : ∀ p x, L'.at p = some x → (∃ q, L.at q = some x) ∨ W.heap.size ≤ x
  newLb : ∀ x, L'.lb x → L.lb x ∨ W.heap.size ≤ x
  c1 : W'.cell? ⟨L.B, 1, none⟩ = W.cell? ⟨L.B, 1, none⟩

theorem Went.trans {W W1 W2 : World} {L L1 L2 : LB} (a : Went W W1 L L1) (b : Went W1 W2 L1 L2) : Went W W2 L L2 := by
  refine ⟨a.keep.trans' b.keep (fun i hi ⟨p, hp⟩ => ?_), b.B.trans a.B, fun p x hp => ?_, fun x hx => ?_, ?_⟩
  · rcases a.newAt p i hp with h | h
    · exact h
    · omega
  · rcases b.newAt p x hp with ⟨q, hq⟩ | h
    · exact a.newAt q x hq
    · exact Or.inr (Nat.le_trans a.keep.size h)
  · rcases b.newLb x hx with h | h
    · exact a.newLb x h
    · exact Or.inr (Nat.le_trans a.keep.size h)
  · have := b.c1
    rw [a.B] at this
    exact this.trans a.c1

/-- Nothing of the law's world was written. -/
theorem DW.below {W W' : World} {L : LB} {s : Nat → Dk} {Ls Ms : List Value} {c : Int} (h : DW W L s Ls Ms c) (hb : Below W.heap.size W W') : DW W' L s Ls Ms c ∧ Went W W' L L := by
  have hk : Keep (fun i => ∃ p, no' p ∧ L.at p = some i) W W' := Keep.of_below hb
  refine ⟨⟨h.kept no' hk, h.apart, fun p x hp => ⟨(h.base p x hp).1, Nat.lt_of_lt_of_le (h.base p x hp).2 hb.size⟩, fun b hl => ⟨(h.lists b hl).1, Nat.lt_of_lt_of_le (h.lists b hl).2.1 hb.size, (h.lists b hl).2.2⟩, h.fresh, h.n12⟩, Keep.of_below hb, rfl, fun p x hp => Or.inl ⟨p, hp⟩, fun x hx => Or.inl hx, hb.cell (p := ⟨L.B, 1, none⟩) (h.base .own _ rfl).2⟩

/-- A desk was asked, and the document's. -/
theorem DW.desked {W W1 W2 : World} {L : LB} {s : Nat → Dk} {Ls Ms : List Value} {c : Int} (h : DW W L s Ls Ms c) {k : Nat} (hk : k < L.n) {c' : Option Nat} {s' : Dk} (hc : c' = L.ch k ∨ ∃ j, W.heap.size ≤ j ∧ c' = some j) (hd : DeskAt W1 (L.dk k) c' s')
    (k1 : Keep (fun i => i = L.dk k ∨ L.ch k = some i) W W1) (hr : RefAt W2 (L.rf k) s') (k2 : Keep (fun i => i = L.rf k) W1 W2) (hf : s'.Fresh) :
    DW W2 { L with ch := put L.ch k c' } (put s k s') Ls Ms c ∧ Went W W2 L { L with ch := put L.ch k c' } := by
  have aD : L.at (.desk k) = some (L.dk k) := if_pos hk
  have aR : L.at (.ref k) = some (L.rf k) := if_pos hk
  have aC : ∀ x, L.ch k = some x → L.at (.chan k) = some x := fun x hx => (if_pos hk).trans hx
  have kk : Keep (fun i => ∃ p, (p = .desk k ∨ p = .chan k ∨ p = .ref k) ∧ L.at p = some i) W W2 := by
    refine (k1.mono (T := fun i => ∃ p, (p = .desk k ∨ p = .chan k ∨ p = .ref k) ∧ L.at p = some i) (fun i _ e => ?_)).trans' k2 (fun i _ e => ⟨.ref k, Or.inr (Or.inr rfl), e ▸ aR⟩)
    rcases e with e | e
    · exact ⟨.desk k, Or.inl rfl, e ▸ aD⟩
    · exact ⟨.chan k, Or.inr (Or.inl rfl), aC i e⟩
  have hn := h.kept _ kk
  have szs := kk.size
  have sz1 := k1.size
  have hc'lt : ∀ x, c' = some x → x < W1.heap.size := fun x hx => by
    obtain ⟨_, made, _, _, hrd⟩ := hd
    rw [hx] at hrd
    obtain ⟨buf, sn, rc, hch, _⟩ := hrd
    exact (Array.getElem?_eq_some_iff.1 hch).1
  have hcn : ∀ x, c' = some x → ∀ p, L.at p = some x → p = .chan k := fun x hx p hp => by
    rcases hc with e | ⟨j, hj, e⟩
    · exact h.apart p (.chan k) x hp (aC x (e.symm.trans hx))
    · rw [e] at hx; cases hx
      have := (h.base p _ hp).2; omega
  have hd2 : DeskAt W2 (L.dk k) c' s' := by
    refine deskAt_stay hd (k2.block _ (Nat.lt_of_lt_of_le (h.base _ _ aD).2 sz1) (fun e => ?_)) (fun x hx => k2.block x (hc'lt x hx) (fun e => ?_))
    · have e' : L.dk k = L.rf k := e
      have := h.apart (.desk k) (.ref k) _ aD (e' ▸ aR)
      cases this
    · have e' : x = L.rf k := e
      have := hcn x hx (.ref k) (e' ▸ aR)
      cases this
  have out : ∀ {p : LP}, p ≠ .desk k → p ≠ .chan k → p ≠ .ref k → ¬ (p = .desk k ∨ p = .chan k ∨ p = .ref k) := fun a b c e => e.elim a (fun e => e.elim b c)
  have at' : ∀ p, p ≠ .chan k → ({ L with ch := put L.ch k c' } : LB).at p = L.at p := fun p hne => by
    cases p with
    | chan i =>
      have hi : i ≠ k := fun e => hne (by rw [e])
      show (if i < L.n then put L.ch k c' i else none) = (if i < L.n then L.ch i else none)
      rw [put_other _ _ _ hi]
    | _ => rfl
  have atc : ({ L with ch := put L.ch k c' } : LB).at (.chan k) = c' := by
    show (if k < L.n then put L.ch k c' k else none) = c'
    rw [if_pos hk, put_same]
  refine ⟨⟨⟨fun _ => hn.x0 (out (by simp) (by simp) (by simp)), fun _ => hn.x2 (out (by simp) (by simp) (by simp)), fun _ => hn.x3 (out (by simp) (by simp) (by simp)), fun _ => hn.x4 (out (by simp) (by simp) (by simp)), fun _ => hn.xz (out (by simp) (by simp) (by simp)), fun _ => hn.rD (out (by simp) (by simp) (by simp)), fun _ => hn.rL (out (by simp) (by simp) (by simp)), fun _ => hn.rM (out (by simp) (by simp) (by simp)), fun i hi _ _ => ?_, fun i hi _ => ?_, hn.rds.len, hn.rds.read⟩, fun p q x hp hq => ?_, fun p x hp => ?_, fun b hb => ?_, fun i hi => ?_, h.n12⟩, kk.mono (fun i _ ⟨p, _, e⟩ => ⟨p, e⟩), rfl, fun p x hp => ?_, fun x hx => Or.inl hx, ?_⟩
  · show DeskAt W2 (L.dk i) (put L.ch k c' i) (put s k s' i)
    by_cases e : i = k
    · subst e; rw [put_same, put_same]; exact hd2
    · rw [put_other _ _ _ e, put_other _ _ _ e]
      exact hn.dsk i hi (out (by simpa using e) (by simp) (by simp)) (out (by simp) (by simpa using e) (by simp))
  · show RefAt W2 (L.rf i) (put s k s' i)
    by_cases e : i = k
    · subst e; rw [put_same]; exact hr
    · rw [put_other _ _ _ e]
      exact hn.ref i hi (out (by simp) (by simp) (by simpa using e))
  · by_cases e1 : p = .chan k
    · by_cases e2 : q = .chan k
      · rw [e1, e2]
      · rw [e1, atc] at hp; rw [at' q e2] at hq
        exact absurd (hcn x hp q hq) e2
    · by_cases e2 : q = .chan k
      · rw [e2, atc] at hq; rw [at' p e1] at hp
        exact absurd (hcn x hq p hp) e1
      · rw [at' p e1] at hp; rw [at' q e2] at hq
        exact h.apart p q x hp hq
  · show L.B ≤ x ∧ _
    by_cases e1 : p = .chan k
    · rw [e1, atc] at hp
      refine ⟨?_, Nat.lt_of_lt_of_le (hc'lt x hp) k2.size⟩
      rcases hc with e | ⟨j, hj, e⟩
      · exact (h.base (.chan k) x (aC x (e.symm.trans hp))).1
      · rw [e] at hp; cases hp
        have := (h.base .own _ rfl).2; omega
    · rw [at' p e1] at hp
      exact ⟨(h.base p x hp).1, Nat.lt_of_lt_of_le (h.base p x hp).2 szs⟩
  · obtain ⟨b1, b2, b3⟩ := h.lists b hb
    refine ⟨b1, Nat.lt_of_lt_of_le b2 szs, fun p hp => ?_⟩
    by_cases e1 : p = .chan k
    · rw [e1, atc] at hp
      rcases hc with e | ⟨j, hj, e⟩
      · exact b3 (.chan k) (aC b (e.symm.trans hp))
      · rw [e] at hp; cases hp; omega
    · rw [at' p e1] at hp; exact b3 p hp
  · show (put s k s' i).Fresh
    by_cases e : i = k
    · subst e; rw [put_same]; exact hf
    · rw [put_other _ _ _ e]; exact h.fresh i hi
  · by_cases e1 : p = .chan k
    · rw [e1, atc] at hp
      rcases hc with e | ⟨j, hj, e⟩
      · exact Or.inl ⟨.chan k, aC x (e.symm.trans hp)⟩
      · rw [e] at hp; cases hp; exact Or.inr hj
    · rw [at' p e1] at hp; exact Or.inl ⟨p, hp⟩
  · exact kk.cell (p := ⟨L.B, 1, none⟩) (h.base .own _ rfl).2 (fun ⟨p, hp, e⟩ => by
      have := h.apart p .own L.B e rfl
      subst this
      rcases hp with hp | hp | hp <;> cases hp)
end Go.Proofs.YtdplffhieekfaaaDoor
namespace Go.Proofs.YtdplffhieekfaaaDoor
open Go.RowKit

/-- A desk more. -/
theorem DW.more {W W2 W3 : World} {L : LB} {s : Nat → Dk} {Ls Ms : List Value} {c : Int} (h0 : DW W L s Ls Ms c) (hb : Below W.heap.size W W2) (hn12 : L.n < 12) {k r : Nat} {s' : Dk} (hk : W.heap.size ≤ k) (hr : W.heap.size ≤ r) (hkr : k ≠ r) (hd : DeskAt W2 k none s') (hf : RefAt W2 r s') (hfr : s'.Fresh)
    {v : Value} {Z : Obj} (ho : W3.ownsRow (L.B + 1) 86 2 v (L.n + 1) (pairCells L.dk L.rf L.n ++ [.pointer (some ⟨k, 0, none⟩), .pointer (some ⟨r, 0, none⟩)])) (hg : (W2.alloc Z).grownBy W3 L.vD.ownBlock) (hl : v.ownBlock = L.vD.ownBlock ∨ v.ownBlock = some (W2.alloc Z).heap.size) :
    DW (W3.setCell ⟨L.B, 0, none⟩ v) { L with vD := v, dk := put L.dk L.n k, ch := put L.ch L.n none, rf := put L.rf L.n r, n := L.n + 1 } (put s L.n s') Ls Ms c ∧
      Went W (W3.setCell ⟨L.B, 0, none⟩ v) L { L with vD := v, dk := put L.dk L.n k, ch := put L.ch L.n none, rf := put L.rf L.n r, n := L.n + 1 } := by
  obtain ⟨h, _⟩ := h0.below hb
  have sz2 := hb.size
  have hkl : k < W2.heap.size := by obtain ⟨_, made, _, hcl, _⟩ := hd; exact block_lt_of_cell hcl.c0
  have hrl : r < W2.heap.size := block_lt_of_cell hf.c0
  have kk0 := grew_keep (B := L.B) (o := 0) (v' := v) hg
  have kk : Keep (fun i => ∃ p, (p = .own ∨ p = .desks) ∧ L.at p = some i) W2 (W3.setCell ⟨L.B, 0, none⟩ v) := kk0.mono (fun i _ e => e.elim (fun e => ⟨.own, Or.inl rfl, by rw [e]; rfl⟩) (fun e => ⟨.desks, Or.inr rfl, e⟩))
  have hn := h.kept _ kk
  have szs := kk.size
  have il := owns_in (h.but.rD id)
  have il' := owns_in ho
  have hBlt : L.B < W2.heap.size := (h.base .own _ rfl).2
  have hB0 : L.B < W.heap.size := (h0.base .own _ rfl).2
  have hW3 : W2.heap.size < W3.heap.size := by have := hg.size; simp at this; omega
  have nk : ∀ p, L.at p ≠ some k := fun p hp => by have := (h0.base p k hp).2; omega
  have nr : ∀ p, L.at p ≠ some r := fun p hp => by have := (h0.base p r hp).2; omega
  have hd4 : DeskAt (W3.setCell ⟨L.B, 0, none⟩ v) k none s' := deskAt_stay hd (kk.block k hkl (fun ⟨p, _, e⟩ => nk p e)) (fun x hx => by cases hx)
  have hf4 : RefAt (W3.setCell ⟨L.B, 0, none⟩ v) r s' := refAt_stay hf (kk.block r hrl (fun ⟨p, _, e⟩ => nr p e))
  have hB2 : W3.heap[L.B]? = W2.heap[L.B]? := by
    have e1 := hg.block L.B (by simp; omega) (fun e => by have := (il L.B e.symm).1; omega)
    rw [e1]; exact heap_alloc_old _ _ hBlt
  have cB2 : ∀ o, W3.cell? ⟨L.B, o, none⟩ = W2.cell? ⟨L.B, o, none⟩ := fun o => World.cell?_of_block (w := W2) hB2
  have cO : ∀ o, o ≠ 0 → (W3.setCell ⟨L.B, 0, none⟩ v).cell? ⟨L.B, o, none⟩ = W2.cell? ⟨L.B, o, none⟩ := fun o hne => by
    rw [World.cell?_setCell_other _ _ _ _ (by simp <;> omega)]; exact cB2 o
  have out : ∀ {p : LP}, p ≠ .own → p ≠ .desks → ¬ (p = .own ∨ p = .desks) := fun a b e => e.elim a b
  have vn : ∀ x, v.ownBlock = some x → L.at .desks = some x ∨ W2.heap.size < x := fun x hx => by
    rcases hl with e | e
    · exact Or.inl (e.symm.trans hx)
    · rw [e] at hx; cases hx; right; simp
  generalize hL' : ({ L with vD := v, dk := put L.dk L.n k, ch := put L.ch L.n none, rf := put L.rf L.n r, n := L.n + 1 } : LB) = L' at *
  have cls : ∀ p x, L'.at p = some x → (p = .desks ∧ v.ownBlock = some x) ∨ (p = .desk L.n ∧ x = k) ∨ (p = .ref L.n ∧ x = r) ∨ (p ≠ .desks ∧ L.at p = some x) := fun p x hp => by
    subst hL'
    cases p with
    | desks => exact Or.inl ⟨rfl, hp⟩
    | desk i =>
      have hp' : (if i < L.n + 1 then some (put L.dk L.n k i) else none) = some x := hp
      by_cases e : i = L.n
      · subst e; rw [if_pos (Nat.lt_succ_self _), put_same] at hp'; cases hp'; exact Or.inr (Or.inl ⟨rfl, rfl⟩)
      · by_cases hi : i < L.n
        · rw [if_pos (by omega), put_other _ _ _ e] at hp'
          exact Or.inr (Or.inr (Or.inr ⟨by simp, (if_pos hi).trans hp'⟩))
        · rw [if_neg (by omega)] at hp'; cases hp'
    | chan i =>
      have hp' : (if i < L.n + 1 then put L.ch L.n none i else none) = some x := hp
      by_cases e : i = L.n
      · subst e; rw [if_pos (Nat.lt_succ_self _), put_same] at hp'; cases hp'
      · by_cases hi : i < L.n
        · rw [if_pos (by omega), put_other _ _ _ e] at hp'
          exact Or.inr (Or.inr (Or.inr ⟨by simp, (if_pos hi).trans hp'⟩))
        · rw [if_neg (by omega)] at hp'; cases hp'
    | ref i =>
      have hp' : (if i < L.n + 1 then some (put L.rf L.n r i) else none) = some x := hp
      by_cases e : i = L.n
      · subst e; rw [if_pos (Nat.lt_succ_self _), put_same] at hp'; cases hp'; exact Or.inr (Or.inr (Or.inl ⟨rfl, rfl⟩))
      · by_cases hi : i < L.n
        · rw [if_pos (by omega), put_other _ _ _ e] at hp'
          exact Or.inr (Or.inr (Or.inr ⟨by simp, (if_pos hi).trans hp'⟩))
        · rw [if_neg (by omega)] at hp'; cases hp'
    | own => exact Or.inr (Or.inr (Or.inr ⟨by simp, hp⟩))
    | lists => exact Or.inr (Or.inr (Or.inr ⟨by simp, hp⟩))
    | marks => exact Or.inr (Or.inr (Or.inr ⟨by simp, hp⟩))
  have eB : L'.B = L.B := by rw [← hL']
  have elb : L'.lb = L.lb := by rw [← hL']
  have en : L'.n = L.n + 1 := by rw [← hL']
  have vk : ∀ (p q : LP) (x : Nat), p = .desks → v.ownBlock = some x → L.at q = some x → q ≠ .desks → False := fun p q x _ hv hq hne => by
    rcases vn x hv with e | e
    · exact hne (h.apart q .desks x hq e)
    · have := (h.base q x hq).2; omega
  refine ⟨⟨?_, fun p q x hp hq => ?_, fun p x hp => ?_, fun b hb => ?_, fun i hi => ?_, ?_⟩, ?_, eB, fun p x hp => ?_, fun x hx => Or.inl (elb ▸ hx), ?_⟩
  · subst hL'
    refine ⟨fun _ => World.cell?_setCell_same _ _ _ ((cB2 0).trans (h.but.x0 id)), fun _ => (cO 2 (by omega)).trans (h.but.x2 id), fun _ => (cO 3 (by omega)).trans (h.but.x3 id), fun _ => (cO 4 (by omega)).trans (h.but.x4 id), fun _ o => ?_, fun _ => ?_, fun _ => hn.rL (out (by simp) (by simp)), fun _ => hn.rM (out (by simp) (by simp)), fun i hi _ _ => ?_, fun i hi _ => ?_, hn.rds.len, hn.rds.read⟩
    · rw [World.frozen?_setCell]; exact (World.frozen?_of_block (w := W2) (a := ⟨L.B, o, none⟩) hB2).trans (h.but.xz id o)
    · show (W3.setCell ⟨L.B, 0, none⟩ v).ownsRow (L.B + 1) 86 2 v (L.n + 1) (pairCells (put L.dk L.n k) (put L.rf L.n r) (L.n + 1))
      rw [pairCells_succ, pairCells_put, put_same, put_same]
      exact owns_stay ho (fun z hz => Below.heap_setCell _ _ _ _ (fun e => by have := (il' z hz).1; simp at e; omega))
    · show DeskAt _ (put L.dk L.n k i) (put L.ch L.n none i) (put s L.n s' i)
      by_cases e : i = L.n
      · subst e; rw [put_same, put_same, put_same]; exact hd4
      · rw [put_other _ _ _ e, put_other _ _ _ e, put_other _ _ _ e]
        exact hn.dsk i (by have : i < L.n + 1 := hi; omega) (out (by simp) (by simp)) (out (by simp) (by simp))
    · show RefAt _ (put L.rf L.n r i) (put s L.n s' i)
      by_cases e : i = L.n
      · subst e; rw [put_same, put_same]; exact hf4
      · rw [put_other _ _ _ e, put_other _ _ _ e]
        exact hn.ref i (by have : i < L.n + 1 := hi; omega) (out (by simp) (by simp))
  · rcases cls p x hp with ⟨a1, a2⟩ | ⟨a1, a2⟩ | ⟨a1, a2⟩ | ⟨a1, a2⟩ <;> rcases cls q x hq with ⟨b1, b2⟩ | ⟨b1, b2⟩ | ⟨b1, b2⟩ | ⟨b1, b2⟩
    · rw [a1, b1]
    · exfalso; subst b2; rcases vn _ a2 with e | e
      · exact nk _ e
      · omega
    · exfalso; subst b2; rcases vn _ a2 with e | e
      · exact nr _ e
      · omega
    · exact (vk p q x a1 a2 b2 b1).elim
    · exfalso; subst a2; rcases vn _ b2 with e | e
      · exact nk _ e
      · omega
    · rw [a1, b1]
    · exfalso; omega
    · subst a2; exact absurd b2 (nk q)
    · exfalso; subst a2; rcases vn _ b2 with e | e
      · exact nr _ e
      · omega
    · exfalso; omega
    · rw [a1, b1]
    · subst a2; exact absurd b2 (nr q)
    · exact (vk q p x b1 b2 a2 a1).elim
    · subst b2; exact absurd a2 (nk p)
    · subst b2; exact absurd a2 (nr p)
    · exact h.apart p q x a2 b2
  · rw [eB]
    have hs : (W3.setCell ⟨L.B, 0, none⟩ v).heap.size = W3.heap.size := by simp [World.setCell]
    rw [hs]
    rcases cls p x hp with ⟨a1, a2⟩ | ⟨a1, a2⟩ | ⟨a1, a2⟩ | ⟨a1, a2⟩
    · have := il' x a2; omega
    · omega
    · omega
    · have := h.base p x a2; omega
  · rw [elb] at hb
    obtain ⟨b1, b2, b3⟩ := h0.lists b hb
    refine ⟨by rw [eB]; exact b1, by omega, fun p hp => ?_⟩
    rcases cls p b hp with ⟨a1, a2⟩ | ⟨a1, a2⟩ | ⟨a1, a2⟩ | ⟨a1, a2⟩
    · rcases vn _ a2 with e | e
      · exact b3 _ e
      · omega
    · omega
    · omega
    · exact b3 p a2
  · rw [en] at hi
    by_cases e : i = L.n
    · subst e; rw [put_same]; exact hfr
    · rw [put_other _ _ _ e]; exact h.fresh i (by omega)
  · rw [en]; omega
  · exact (Keep.of_below hb).trans' kk (fun i _ ⟨p, _, e⟩ => ⟨p, e⟩)
  · rcases cls p x hp with ⟨a1, a2⟩ | ⟨a1, a2⟩ | ⟨a1, a2⟩ | ⟨a1, a2⟩
    · rcases vn _ a2 with e | e
      · exact Or.inl ⟨_, e⟩
      · right; omega
    · right; omega
    · right; omega
    · exact Or.inl ⟨p, a2⟩
  · exact (cO 1 (by omega)).trans (hb.cell (p := ⟨L.B, 1, none⟩) hB0)

/-- Four lists more. -/
theorem DW.listed {W W' : World} {L : LB} {s : Nat → Dk} {Ls Ms : List Value} {c : Int} (h : DW W L s Ls Ms c) {l : Value} (hl : ∀ g, l.ownBlock = some g → L.B < g ∧ (∀ p, L.at p ≠ some g) ∧ ¬ L.lb g)
    {x c1 : Int} {lv' mv' lc : Value} {m : Nat} {N4 : List Value} (hN : N4.length = 4) (hm : m ≤ 100000) (hK : KS W L.B L.lv L.mv l x c1 W' lv' mv' lc (Ls ++ N4) (Ms ++ List.replicate 4 (.int .u64 x)) m N4) :
    DW W' { L with lv := lv', mv := mv', lb := fun b => L.lb b ∨ InList W L.B l lv' mv' W' b } s (Ls ++ N4) (Ms ++ List.replicate 4 (.int .u64 x)) c1 := by
  have kk : Keep (fun i => (∃ p, (p = .own ∨ p = .lists ∨ p = .marks) ∧ L.at p = some i) ∨ l.ownBlock = some i) W W' := hK.keep.mono (fun i _ e => by
    rcases e with e | e | e | e
    · exact Or.inl ⟨.own, Or.inl rfl, by rw [e]; rfl⟩
    · exact Or.inl ⟨.lists, Or.inr (Or.inl rfl), e⟩
    · exact Or.inl ⟨.marks, Or.inr (Or.inr rfl), e⟩
    · exact Or.inr e)
  have hn := h.kept' _ (fun i => l.ownBlock = some i) (fun i e => (hl i e).2) kk
  have szs := kk.size
  have hB0 : L.B < W.heap.size := (h.base .own _ rfl).2
  have il := owns_in hK.lists
  have im := owns_in hK.marks
  have out : ∀ {p : LP}, p ≠ .own → p ≠ .lists → p ≠ .marks → ¬ (p = .own ∨ p = .lists ∨ p = .marks) := fun a b c e => e.elim a (fun e => e.elim b c)
  generalize hL' : ({ L with lv := lv', mv := mv', lb := fun b => L.lb b ∨ InList W L.B l lv' mv' W' b } : LB) = L' at *
  have cls : ∀ p y, L'.at p = some y → (p = .lists ∧ lv'.ownBlock = some y) ∨ (p = .marks ∧ mv'.ownBlock = some y) ∨ (p ≠ .lists ∧ p ≠ .marks ∧ L.at p = some y) := fun p y hp => by
    subst hL'
    cases p with
    | lists => exact Or.inl ⟨rfl, hp⟩
    | marks => exact Or.inr (Or.inl ⟨rfl, hp⟩)
    | _ => exact Or.inr (Or.inr ⟨by simp, by simp, hp⟩)
  have eB : L'.B = L.B := by rw [← hL']
  have en : L'.n = L.n := by rw [← hL']
  have elb : ∀ b, L'.lb b ↔ (L.lb b ∨ InList W L.B l lv' mv' W' b) := fun b => by rw [← hL']
  have nl : ∀ p y, lv'.ownBlock = some y → L.at p = some y → p = .lists := fun p y hy hp => by
    rcases hK.ol y hy with e | e
    · exact h.apart p .lists y hp e
    · have := (h.base p y hp).2; omega
  have nm : ∀ p y, mv'.ownBlock = some y → L.at p = some y → p = .marks := fun p y hy hp => by
    rcases hK.om y hy with e | e
    · exact h.apart p .marks y hp e
    · have := (h.base p y hp).2; omega
  refine ⟨?_, fun p q y hp hq => ?_, fun p y hp => ?_, fun b hb => ?_, fun i hi => h.fresh i (en ▸ hi), by rw [en]; exact h.n12⟩
  · subst hL'
    refine ⟨fun _ => (hK.cB 0 (by omega)).trans (h.but.x0 id), fun _ => hK.c2, fun _ => hK.c3, fun _ => hK.c4, fun _ => hK.fz, fun _ => hn.rD (out (by simp) (by simp) (by simp)), fun _ => hK.lists, fun _ => hK.marks, fun i hi _ _ => hn.dsk i hi (out (by simp) (by simp) (by simp)) (out (by simp) (by simp) (by simp)), fun i hi _ => hn.ref i hi (out (by simp) (by simp) (by simp)), ?_, fun j hj => ?_⟩
    · simp only [List.length_append, List.length_replicate, hN, hn.rds.len]
    · have hml := hn.rds.len
      by_cases hj0 : j < Ls.length
      · obtain ⟨a, n, cp, mk, e1, e2, e3, e4⟩ := hn.rds.read j hj0
        refine ⟨a, n, cp, mk, by rw [List.getElem?_append_left hj0]; exact e1, by rw [List.getElem?_append_left (by omega)]; exact e2, e3, fun k hk => ?_⟩
        obtain ⟨b, f1, f2, f3⟩ := e4 k hk
        exact ⟨b, f1, Or.inl f2, f3⟩
      · have hj4 : j < Ls.length + 4 := by rw [List.length_append, hN] at hj; exact hj
        have hjn : j - Ls.length < N4.length := by omega
        obtain ⟨a, n, cp, e1, e2, e3⟩ := hK.reads (N4[j - Ls.length]'hjn) (List.getElem_mem _)
        refine ⟨a, n, cp, x, by rw [List.getElem?_append_right (by omega), List.getElem?_eq_getElem hjn, e1], by rw [List.getElem?_append_right (by omega), List.getElem?_replicate, if_pos (by omega)], by omega, fun k hk => ?_⟩
        obtain ⟨b, f1, f2, f3⟩ := e3 k hk
        exact ⟨b, f1, Or.inr f2, f3⟩
  · rcases cls p y hp with ⟨a1, a2⟩ | ⟨a1, a2⟩ | ⟨a1, a3, a2⟩ <;> rcases cls q y hq with ⟨b1, b2⟩ | ⟨b1, b2⟩ | ⟨b1, b3, b2⟩
    · rw [a1, b1]
    · exact (hK.lm y a2 b2).elim
    · exact absurd (nl q y a2 b2) b1
    · exact (hK.lm y b2 a2).elim
    · rw [a1, b1]
    · exact absurd (nm q y a2 b2) b3
    · exact absurd (nl p y b2 a2) a1
    · exact absurd (nm p y b2 a2) a3
    · exact h.apart p q y a2 b2
  · rw [eB]
    rcases cls p y hp with ⟨a1, a2⟩ | ⟨a1, a2⟩ | ⟨a1, a3, a2⟩
    · have := il y a2; omega
    · have := im y a2; omega
    · have := h.base p y a2; omega
  · rw [eB]
    rcases (elb b).1 hb with hb | hb
    · obtain ⟨b1, b2, b3⟩ := h.lists b hb
      refine ⟨b1, by omega, fun p hp => ?_⟩
      rcases cls p b hp with ⟨a1, a2⟩ | ⟨a1, a2⟩ | ⟨a1, a3, a2⟩
      · rcases hK.ol b a2 with e | e
        · exact b3 .lists e
        · omega
      · rcases hK.om b a2 with e | e
        · exact b3 .marks e
        · omega
      · exact b3 p a2
    · refine ⟨?_, hb.lt, fun p hp => ?_⟩
      · rcases hb.old with e | e
        · exact (hl b e).1
        · omega
      · rcases cls p b hp with ⟨a1, a2⟩ | ⟨a1, a2⟩ | ⟨a1, a3, a2⟩
        · exact hb.lv a2
        · exact hb.mv a2
        · rcases hb.old with e | e
          · exact (hl b e).2.1 p a2
          · have := (h.base p b a2).2; omega
end Go.Proofs.YtdplffhieekfaaaDoor
namespace Go.Proofs.YtdplffhieekfaaaDoor
open Go.RowKit

def nextNum (s : Dk) (now : Int) : Int := if errOf s now = 0 then numOf (timeOf s now) s.node (seqOf s (timeOf s now)) else 0
def nextDk (s : Dk) (now : Int) : Dk := if errOf s now = 0 then s.step now else s
def bLen (s : Dk) (now cnt : Int) : Nat := if 1 ≤ cnt ∧ cnt ≤ 10000 ∧ timeAt s now (cnt.toNat - 1) < lidOf s now then cnt.toNat else 0
def bErr (s : Dk) (now cnt : Int) : Int := if cnt < 1 ∨ 10000 < cnt then 9 else batchErr s now cnt.toNat

theorem bLen_le (s : Dk) (now cnt : Int) : bLen s now cnt ≤ 10000 := by unfold bLen; split <;> omega

theorem step_fresh {s : Dk} (ok : s.Ok) (now : Int) : (s.step now).Fresh := by
  intro h
  have := (seqOf_lt ok now).1
  have h' : seqOf s (timeOf s now) + 1 = 0 := h
  omega

theorem nextDk_fresh {s : Dk} (ok : s.Ok) (hf : s.Fresh) (now : Int) : (nextDk s now).Fresh := by
  unfold nextDk
  split
  · exact step_fresh ok now
  · exact hf

theorem nextDk_given (s : Dk) (now : Int) : s.given ≤ (nextDk s now).given ∧ (nextDk s now).given ≤ s.given + 1 := by
  unfold nextDk
  split
  · show s.given ≤ s.given + 1 ∧ s.given + 1 ≤ s.given + 1
    omega
  · omega

theorem DeskAt.next_any {w : World} {b : Nat} {c : Option Nat} {s : Dk} (hd : DeskAt w b c s) (now : Int) (hn : -9223372036854775808 ≤ now) (g0 : 0 ≤ s.given) (g1 : s.given < 9223372036854775807) :
    Calls Tryd.prog 17 #[.pointer (some ⟨b, 0, none⟩), .int .i64 now] w fun e w' => e = .returned (.tuple #[.int .u64 (nextNum s now), .int .i64 (errOf s now)]) ∧
      ∃ c', (c' = c ∨ ∃ k, w.heap.size ≤ k ∧ c' = some k) ∧ DeskAt w' b c' (nextDk s now) ∧ Keep (fun i => i = b ∨ c = some i) w w' := by
  unfold nextNum nextDk
  by_cases he : errOf s now = 0
  · rw [if_pos he, if_pos he, he]
    exact hd.next_yes now hn he g0 g1
  · rw [if_neg he, if_neg he]
    refine (hd.next_no now hn he).mono ?_
    rintro e w' ⟨rfl, n, rfl⟩
    exact ⟨rfl, c, Or.inl rfl, hd.drewN n, (Keep.refl _ w).drewN n⟩

theorem RefAt.next_any {w : World} {b : Nat} {s : Dk} (h : RefAt w b s) (ok : s.Ok) (hf : s.Fresh) (now : Int) (n0 : -9223372036854775808 ≤ now) (n1 : now ≤ 9223372036854775807) (g0 : 0 ≤ s.given) (g1 : s.given < 9223372036854775807) :
    Calls Tryd.prog 47 #[.pointer (some ⟨b, 0, none⟩), .int .i64 now] w fun e w' => e = .returned (.tuple #[.int .u64 (nextNum s now), .int .i64 (errOf s now)]) ∧ RefAt w' b (nextDk s now) ∧ Keep (fun i => i = b) w w' := by
  unfold nextNum nextDk
  by_cases he : errOf s now = 0
  · rw [if_pos he, if_pos he, he]
    exact h.next_yes ok hf now n0 n1 he g0 g1
  · rw [if_neg he, if_neg he]
    refine (h.next_no ok hf now n0 n1 he).mono ?_
    rintro e w' ⟨rfl, rfl⟩
    exact ⟨rfl, h, Keep.refl _ _⟩

theorem runG_zero (s : Dk) (now : Int) : s.runG now 0 = s := by
  cases s
  simp [Dk.runG, Dk.run]

theorem owns_nil (w : World) (base : Nat) (e : TypeId) (size : Nat) : w.ownsRow base e size (.slice none 0 0) 0 [] := ⟨by simp, Or.inl ⟨rfl, rfl⟩⟩

theorem DeskAt.batch_all {w : World} {b : Nat} {c : Option Nat} {s : Dk} (hd : DeskAt w b c s) (now cnt : Int) (hn : -9223372036854775808 ≤ now) (g0 : 0 ≤ s.given) (g1 : s.given + 10000 ≤ 9223372036854775807) :
    Calls Tryd.prog 48 #[.pointer (some ⟨b, 0, none⟩), .int .i64 now, .int .i64 cnt] w fun e w' => ∃ l, e = .returned (.tuple #[l, .int .i64 (bErr s now cnt)]) ∧ w'.ownsRow w.heap.size 25 1 l (bLen s now cnt) (numCells s now (bLen s now cnt)) ∧
      (∃ c', (c' = c ∨ ∃ j, w.heap.size ≤ j ∧ c' = some j) ∧ DeskAt w' b c' (s.runG now (bLen s now cnt))) ∧ Keep (fun x => x = b ∨ c = some x) w w' := by
  by_cases hc : cnt < 1 ∨ 10000 < cnt
  · rw [show bErr s now cnt = 9 from if_pos hc, show bLen s now cnt = 0 from if_neg (by omega), runG_zero]
    refine (batch_count b now cnt w hc).mono ?_
    rintro e w' ⟨rfl, rfl⟩
    exact ⟨_, rfl, owns_nil _ _ _ _, ⟨c, Or.inl rfl, hd⟩, Keep.refl _ _⟩
  · obtain ⟨n, rfl⟩ : ∃ n : Nat, cnt = n := ⟨cnt.toNat, by omega⟩
    rw [show bErr s now n = batchErr s now n from if_neg hc]
    by_cases hl : timeAt s now (n - 1) < lidOf s now
    · rw [show bLen s now n = n from if_pos ⟨by omega, by omega, hl⟩, show batchErr s now n = 0 by unfold batchErr; rw [if_pos hl]]
      refine (hd.batch_row now n hn (by omega) (by omega) hl g0 (by omega)).mono ?_
      rintro e w' ⟨k, rfl, h1, h2, h3⟩
      exact ⟨_, rfl, h1, h2, h3⟩
    · rw [show bLen s now n = 0 from if_neg (fun e => hl e.2.2), runG_zero]
      refine (hd.batch_no now n hn (by omega) (by omega) (batchErr_ne hl)).mono ?_
      rintro e w' ⟨rfl, m, rfl⟩
      exact ⟨_, rfl, owns_nil _ _ _ _, ⟨c, Or.inl rfl, hd.drewN m⟩, (Keep.refl _ w).drewN m⟩

theorem RefAt.batch_all {w : World} {b : Nat} {s : Dk} (h : RefAt w b s) (ok : s.Ok) (hf : s.Fresh) (now cnt : Int) (n0 : -9223372036854775808 ≤ now) (n1 : now ≤ 9223372036854775807) (g0 : 0 ≤ s.given) (g1 : s.given + 10000 ≤ 9223372036854775807) :
    Calls Tryd.prog 49 #[.pointer (some ⟨b, 0, none⟩), .int .i64 now, .int .i64 cnt] w fun e w' => ∃ l, e = .returned (.tuple #[l, .int .i64 (bErr s now cnt)]) ∧ w'.ownsRow (w.heap.size + 1) 25 1 l (bLen s now cnt) (numCells s now (bLen s now cnt)) ∧
      RefAt w' b (s.runG now (bLen s now cnt)) ∧ Keep (fun i => i = b) w w' := by
  by_cases hc : cnt < 1 ∨ 10000 < cnt
  · rw [show bErr s now cnt = 9 from if_pos hc, show bLen s now cnt = 0 from if_neg (by omega), runG_zero]
    refine (rbatch_count b now cnt w hc).mono ?_
    rintro e w' ⟨rfl, rfl⟩
    exact ⟨_, rfl, owns_nil _ _ _ _, h, Keep.refl _ _⟩
  · obtain ⟨n, rfl⟩ : ∃ n : Nat, cnt = n := ⟨cnt.toNat, by omega⟩
    rw [show bErr s now n = batchErr s now n from if_neg hc]
    refine (h.batch_any ok hf now n n0 n1 (by omega) (by omega) g0 (by omega)).mono ?_
    by_cases hl : timeAt s now (n - 1) < lidOf s now
    · have h0 : batchErr s now n = 0 := by unfold batchErr; rw [if_pos hl]
      rw [show bLen s now n = n from if_pos ⟨by omega, by omega, hl⟩, h0]
      rintro e w' (⟨hx, _⟩ | ⟨_, l, rfl, h1, h2, h3⟩)
      · exact absurd rfl hx
      · exact ⟨l, rfl, h1, h2, h3⟩
    · rw [show bLen s now n = 0 from if_neg (fun e => hl e.2.2), runG_zero]
      rintro e w' (⟨_, rfl, hb⟩ | ⟨hx, _⟩)
      · exact ⟨_, rfl, owns_nil _ _ _ _, h.below hb, Keep.of_below hb⟩
      · exact absurd hx hl

/-- The law's world behind so many steps. -/
structure LawIn (t : Nat) (W : World) (L : LB) (s : Nat → Dk) (Ls Ms : List Value) (c : Int) : Prop where
  dw : DW W L s Ls Ms c
  given : ∀ k, k < L.n → 0 ≤ (s k).given ∧ (s k).given ≤ 10000 * (t : Int)
  len : Ls.length ≤ 4 * t
  c0 : 0 ≤ c
  c1 : c ≤ t

def Stepped (t : Nat) (W W' : World) (L : LB) : Prop := ∃ L' s' Ls' Ms' c', LawIn (t + 1) W' L' s' Ls' Ms' c' ∧ Went W W' L L'

theorem LawIn.below {t : Nat} {W W' : World} {L : LB} {s : Nat → Dk} {Ls Ms : List Value} {c : Int} (h : LawIn t W L s Ls Ms c) (hb : Below W.heap.size W W') : LawIn t W' L s Ls Ms c ∧ Went W W' L L :=
  ⟨{ h with dw := (h.dw.below hb).1 }, (h.dw.below hb).2⟩

theorem LawIn.later {t : Nat} {W : World} {L : LB} {s : Nat → Dk} {Ls Ms : List Value} {c : Int} (h : LawIn t W L s Ls Ms c) : LawIn (t + 1) W L s Ls Ms c :=
  { h with given := fun k hk => by have := h.given k hk; omega, len := by have := h.len; omega, c1 := by have := h.c1; omega }

theorem LawIn.idle {t : Nat} {W W' : World} {L : LB} {s : Nat → Dk} {Ls Ms : List Value} {c : Int} (h : LawIn t W L s Ls Ms c) (hb : Below W.heap.size W W') : Stepped t W W' L :=
  ⟨L, s, Ls, Ms, c, (h.below hb).1.later, (h.below hb).2⟩

theorem LawIn.desked {t : Nat} {W W1 W2 : World} {L : LB} {s : Nat → Dk} {Ls Ms : List Value} {c : Int} (h : LawIn t W L s Ls Ms c) {k : Nat} (hk : k < L.n) {c' : Option Nat} {s' : Dk} (hc : c' = L.ch k ∨ ∃ j, W.heap.size ≤ j ∧ c' = some j) (hd : DeskAt W1 (L.dk k) c' s')
    (k1 : Keep (fun i => i = L.dk k ∨ L.ch k = some i) W W1) (hr : RefAt W2 (L.rf k) s') (k2 : Keep (fun i => i = L.rf k) W1 W2) (hf : s'.Fresh) (g0 : (s k).given ≤ s'.given) (g1 : s'.given ≤ (s k).given + 10000) :
    LawIn (t + 1) W2 { L with ch := put L.ch k c' } (put s k s') Ls Ms c ∧ Went W W2 L { L with ch := put L.ch k c' } := by
  obtain ⟨a, b⟩ := h.dw.desked hk hc hd k1 hr k2 hf
  refine ⟨⟨a, fun i hi => ?_, by have := h.len; omega, h.c0, by have := h.c1; omega⟩, b⟩
  have hi' : i < L.n := hi
  by_cases e : i = k
  · subst e; rw [put_same]; have := h.given i hi'; omega
  · rw [put_other _ _ _ e]; have := h.given i hi'; omega

/-- Four lists more: what became of all else, seen from a world in which the list was not yet. -/
theorem Went.listed {W0 W W' : World} {L0 L : LB} (h0 : Went W0 W L0 L) {l : Value} (hl : ∀ g, l.ownBlock = some g → W0.heap.size ≤ g)
    {x c1 : Int} {lv' mv' lc : Value} {m : Nat} {Lr Mr N4 : List Value} (hK : KS W L.B L.lv L.mv l x c1 W' lv' mv' lc Lr Mr m N4) :
    Went W0 W' L0 { L with lv := lv', mv := mv', lb := fun b => L.lb b ∨ InList W L.B l lv' mv' W' b } := by
  have hs := h0.keep.size
  refine ⟨h0.keep.trans' hK.keep (fun i hi e => ?_), h0.B, fun p y hp => ?_, fun y hy => ?_, ?_⟩
  · have key : ∀ p, L.at p = some i → ∃ q, L0.at q = some i := fun p hp => by
      rcases h0.newAt p i hp with e | e
      · exact e
      · omega
    rcases e with e | e | e | e
    · exact key .own (by rw [e]; rfl)
    · exact key .lists e
    · exact key .marks e
    · have := hl i e; omega
  · cases p with
    | lists =>
      rcases hK.ol y hp with e | e
      · exact h0.newAt .lists y e
      · right; omega
    | marks =>
      rcases hK.om y hp with e | e
      · exact h0.newAt .marks y e
      · right; omega
    | own => exact h0.newAt .own y hp
    | desks => exact h0.newAt .desks y hp
    | desk k => exact h0.newAt (.desk k) y hp
    | chan k => exact h0.newAt (.chan k) y hp
    | ref k => exact h0.newAt (.ref k) y hp
  · rcases hy with e | e
    · exact h0.newLb y e
    · rcases e.old with e | e
      · exact Or.inr (hl y e)
      · right; omega
  · have e1 := hK.cB 1 (by omega)
    rw [h0.B] at e1
    exact e1.trans h0.c1
end Go.Proofs.YtdplffhieekfaaaDoor
namespace Go.Proofs.YtdplffhieekfaaaDoor
open Go.RowKit

set_option maxRecDepth 100000 in
set_option maxHeartbeats 2000000 in
theorem still_zero (B : Nat) (a : Option Addr) (cp : Nat) (w : World) (hl : w.cell? ⟨B, 2, none⟩ = some (.slice a 0 cp)) :
    Calls Tryd.prog 15 #[.pointer (some ⟨B, 0, none⟩)] w fun e w' => e = .returned (.bool true) ∧ w' = w := by
  go_enter Tryd.func15, Tryd.ntmps15
  go_wp2
  go_loop [3] (fun i => i = .int .i64 0) (fun _ => 0)
  case atStart => rfl
  case round =>
    subst hrel
    go_wp2
    go_ret
    exact ⟨rfl, rfl⟩

theorem owns_some {w : World} {base : Nat} {e : TypeId} {size : Nat} {v : Value} {n : Nat} {xs : List Value} (h : w.ownsRow base e size v n xs) (hn : 0 < n) : ∃ g cap, v = .slice (some ⟨g, 0, none⟩) n cap := by
  rcases h.2 with ⟨_, h0⟩ | ⟨g, cap, _, he, _⟩
  · omega
  · exact ⟨g, cap, he⟩

theorem DW.still {W : World} {L : LB} {s : Nat → Dk} {Ls Ms : List Value} {c : Int} (h : DW W L s Ls Ms c) (hq : Ls.length ≤ 9000000000000) :
    Calls Tryd.prog 15 #[.pointer (some ⟨L.B, 0, none⟩)] W fun e W' => e = .returned (.bool true) ∧ ∃ n, W' = W.drewN n := by
  have rL := h.but.rL id
  have rM := h.but.rM id
  have hml := h.but.rds.len
  by_cases h0 : Ls.length = 0
  · obtain ⟨a, cp, e⟩ := owns_slice rL
    have hx := h.but.x2 id
    rw [e, h0] at hx
    refine (still_zero L.B a cp W hx).mono ?_
    rintro e w' ⟨rfl, rfl⟩
    exact ⟨rfl, 0, rfl⟩
  · obtain ⟨gl, capl, el⟩ := owns_some rL (by omega)
    obtain ⟨gm, capm, em⟩ := owns_some rM (by omega)
    obtain ⟨f, hf⟩ := Classical.axiomOfChoice (r := fun (j : Nat) (y : Option Addr × Nat × Nat × Int) => j < Ls.length → (Ls[j]? = some (.slice y.1 y.2.1 y.2.2.1) ∧ Ms[j]? = some (.int .u64 y.2.2.2) ∧ y.2.1 ≤ 100000 ∧ ∀ k, k < y.2.1 → ∃ b, y.1 = some ⟨b, 0, none⟩ ∧ L.lb b ∧ W.cell? ⟨b, k, none⟩ = some (.int .u64 y.2.2.2))) (fun j => by
      by_cases hj : j < Ls.length
      · obtain ⟨a, n, cp, m, h1⟩ := h.but.rds.read j hj
        exact ⟨(a, n, cp, m), fun _ => h1⟩
      · exact ⟨(none, 0, 0, 0), fun e => absurd e hj⟩)
    refine still_any (gl := gl) (gm := gm) (q := Ls.length) (capl := capl) (capm := capm) (A := fun j => (f j).1) (N := fun j => (f j).2.1) (C := fun j => (f j).2.2.1) (M := fun j => (f j).2.2.2) W ⟨?_, ?_, by omega, fun j hj => ?_, fun j hj k hk => ?_⟩
    · rw [h.but.x2 id, el]
    · rw [h.but.x3 id, em, hml]
    · obtain ⟨h1, h2, h3, _⟩ := hf j hj
      refine ⟨?_, ?_, h3⟩
      · have := rL.cells (g := gl) (by rw [el]; rfl) j _ h1
        rwa [addr_add0] at this
      · have := rM.cells (g := gm) (by rw [em]; rfl) j _ h2
        rwa [addr_add0] at this
    · obtain ⟨_, _, _, h4⟩ := hf j hj
      obtain ⟨b, e1, _, e2⟩ := h4 k hk
      exact ⟨b, e1, e2⟩

/-- The law's world at the start. -/
def LB.start (B : Nat) : LB := ⟨B, .slice none 0 0, .slice none 0 0, .slice none 0 0, fun _ => 0, fun _ => none, fun _ => 0, 0, fun _ => False⟩

theorem law_start (w : World) (T : TypeId) : LawIn 0 (w.alloc (.cells #[.slice none 0 0, .slice none 0 0, .slice none 0 0, .slice none 0 0, .int .u64 0] T)) (LB.start w.heap.size) (fun _ => newDk 0 0 1 0) [] [] 0 := by
  have hc := cell_alloc_new w #[.slice none 0 0, .slice none 0 0, .slice none 0 0, .slice none 0 0, .int .u64 0] T
  have hown : ∀ p x, (LB.start w.heap.size).at p = some x → p = .own ∧ x = w.heap.size := fun p x hp => by
    cases p with
    | own => exact ⟨rfl, (Option.some.inj hp).symm⟩
    | desks => cases hp
    | lists => cases hp
    | marks => cases hp
    | desk k => have : (if k < 0 then some 0 else none) = some x := hp; rw [if_neg (by omega)] at this; cases this
    | chan k => have : (if k < 0 then (none : Option Nat) else none) = some x := hp; rw [if_neg (by omega)] at this; cases this
    | ref k => have : (if k < 0 then some 0 else none) = some x := hp; rw [if_neg (by omega)] at this; cases this
  refine ⟨⟨⟨fun _ => (hc 0).1, fun _ => (hc 2).1, fun _ => (hc 3).1, fun _ => (hc 4).1, fun _ o => (hc o).2, fun _ => owns_nil _ _ _ _, fun _ => owns_nil _ _ _ _, fun _ => owns_nil _ _ _ _, fun k hk => ?_, fun k hk => ?_, rfl, fun j hj => ?_⟩, fun p q x hp hq => ?_, fun p x hp => ?_, fun b hb => hb.elim, fun k hk => ?_, Nat.zero_le _⟩, fun k hk => ?_, Nat.le_refl _, Int.le_refl _, Int.le_refl _⟩
  · exact absurd hk (Nat.not_lt_zero k)
  · exact absurd hk (Nat.not_lt_zero k)
  · exact absurd hj (Nat.not_lt_zero j)
  · rw [(hown p x hp).1, (hown q x hq).1]
  · rw [(hown p x hp).2]; exact ⟨Nat.le_refl _, by simp⟩
  · exact absurd hk (Nat.not_lt_zero k)
  · exact absurd hk (Nat.not_lt_zero k)

/-- Between two steps of a script. -/
def PlayAt (w W : World) (t : Nat) (L : LB) : Prop := (∃ s Ls Ms c, LawIn t W L s Ls Ms c) ∧ L.B = w.heap.size ∧ Below w.heap.size w W

theorem Went.below {W W' : World} {L L' : LB} (h : Went W W' L L') (hB : ∀ p x, L.at p = some x → L.B ≤ x) (hs : L.B ≤ W.heap.size) : Below L.B W W' :=
  h.keep.below hs (fun i hi ⟨p, hp⟩ => by have := hB p i hp; omega)

theorem PlayAt.step {w W W' : World} {t : Nat} {L : LB} (h : PlayAt w W t L) (hs : Stepped t W W' L) : ∃ L', PlayAt w W' (t + 1) L' := by
  obtain ⟨⟨s, Ls, Ms, c, hI⟩, hB, hb⟩ := h
  obtain ⟨L', s', Ls', Ms', c', hI', hw⟩ := hs
  have h1 := hw.below (fun p x hp => (hI.dw.base p x hp).1) (Nat.le_of_lt (hI.dw.base .own _ rfl).2)
  rw [hB] at h1
  exact ⟨L', ⟨s', Ls', Ms', c', hI'⟩, hw.B.trans hB, hb.trans h1⟩

theorem PlayAt.below {w W W' : World} {t : Nat} {L : LB} (h : PlayAt w W t L) (hb : Below W.heap.size W W') : PlayAt w W' t L := by
  obtain ⟨⟨s, Ls, Ms, c, hI⟩, hB, hb0⟩ := h
  exact ⟨⟨s, Ls, Ms, c, (hI.below hb).1⟩, hB, hb0.trans (hb.mono hb0.size)⟩
end Go.Proofs.YtdplffhieekfaaaDoor
namespace Go.Proofs.YtdplffhieekfaaaDoor
open Go.RowKit

theorem pickI_range (c n : Int) (hn : 0 < n) : 0 ≤ pickI c n ∧ pickI c n < n := by
  unfold pickI
  split
  · exact ⟨Int.emod_nonneg _ (by omega), Int.emod_lt_of_pos _ hn⟩
  · exact ⟨Int.emod_nonneg _ (by omega), Int.emod_lt_of_pos _ hn⟩

structure PickedAt (W : World) (L : LB) (g cap k : Nat) : Prop where
  lt : k < L.n
  n12 : L.n ≤ 12
  x0 : W.cell? ⟨L.B, 0, none⟩ = some (.slice (some ⟨g, 0, none⟩) L.n cap)
  d : W.cell? ⟨g, k * 2, none⟩ = some (.pointer (some ⟨L.dk k, 0, none⟩))
  r : W.cell? ⟨g, k * 2 + 1, none⟩ = some (.pointer (some ⟨L.rf k, 0, none⟩))

theorem LawIn.picked {t : Nat} {W : World} {L : LB} {s : Nat → Dk} {Ls Ms : List Value} {c : Int} (h : LawIn t W L s Ls Ms c) (hn : 0 < L.n) (on : Int) (h0 : -9223372036854775808 ≤ on) (h1 : on ≤ 9223372036854775807) :
    ∃ g cap k, PickedAt W L g cap k ∧ ∀ w, Calls Tryd.prog 46 #[.int .i64 on, .int .i64 L.n] w fun e w' => e = .returned (.int .i64 (k : Nat)) ∧ w' = w := by
  have rD := h.dw.but.rD id
  obtain ⟨g, cap, e⟩ := owns_some rD hn
  obtain ⟨p0, p1⟩ := pickI_range on L.n (by omega)
  obtain ⟨k, hk⟩ : ∃ k : Nat, pickI on L.n = k := ⟨(pickI on L.n).toNat, by omega⟩
  have hkn : k < L.n := by omega
  obtain ⟨q0, q1⟩ := pairCells_get L.dk L.rf L.n k hkn
  have c0 := rD.cells (g := g) (by rw [e]; rfl) _ _ q0
  have c1 := rD.cells (g := g) (by rw [e]; rfl) _ _ q1
  rw [addr_add0] at c0 c1
  refine ⟨g, cap, k, ⟨hkn, h.dw.n12, by rw [h.dw.but.x0 id, e], c0, c1⟩, fun w => ?_⟩
  have := lpick_any on L.n w h0 h1 (by omega)
  rw [hk] at this
  exact this

/-- The desk that was picked, laid beside. -/
structure XAt (V W : World) (L : LB) (k X : Nat) : Prop where
  bel : Below V.heap.size V W
  le : V.heap.size ≤ X
  d : W.cell? ⟨X, 0, none⟩ = some (.pointer (some ⟨L.dk k, 0, none⟩))
  r : W.cell? ⟨X, 1, none⟩ = some (.pointer (some ⟨L.rf k, 0, none⟩))

theorem xat_of (V : World) (L : LB) (k X : Nat) (T : TypeId) (hX : V.heap.size = X) : XAt V ((V.alloc (.cells #[.pointer (some ⟨L.dk k, 0, none⟩), .pointer (some ⟨L.rf k, 0, none⟩)] T)).drew) L k X := by
  subst hX
  have e := cell_alloc_new V #[.pointer (some ⟨L.dk k, 0, none⟩), .pointer (some ⟨L.rf k, 0, none⟩)] T
  exact ⟨((Below.refl _ V).alloc (Nat.le_refl _) _).drew, Nat.le_refl _, (e 0).1, (e 1).1⟩

/-- The document's desk stays while its desk is asked. -/
theorem DW.refKeep {W W1 : World} {L : LB} {s : Nat → Dk} {Ls Ms : List Value} {c : Int} (h : DW W L s Ls Ms c) {k : Nat} (hk : k < L.n) (k1 : Keep (fun i => i = L.dk k ∨ L.ch k = some i) W W1) : RefAt W1 (L.rf k) (s k) := by
  have aD : L.at (.desk k) = some (L.dk k) := if_pos hk
  have aR : L.at (.ref k) = some (L.rf k) := if_pos hk
  refine (h.but.ref k hk id).keep k1 (fun e => ?_)
  rcases e with e | e
  · have := h.apart (.ref k) (.desk k) _ aR (e ▸ aD)
    cases this
  · have := h.apart (.ref k) (.chan k) _ aR ((if_pos hk).trans e)
    cases this

theorem DW.deskLt {W : World} {L : LB} {s : Nat → Dk} {Ls Ms : List Value} {c : Int} (h : DW W L s Ls Ms c) {k : Nat} (hk : k < L.n) : ∀ i, (i = L.dk k ∨ L.ch k = some i) → i < W.heap.size := fun i e => by
  rcases e with e | e
  · rw [e]; exact (h.base (.desk k) _ (if_pos hk)).2
  · exact (h.base (.chan k) _ ((if_pos hk).trans e)).2

theorem keep_new {S : Nat → Prop} {W0 w w1 : World} (hk : Keep S w w1) (hS : ∀ i, S i → i < W0.heap.size) {b : Nat} (o : Nat) {v : Value} (hb : W0.heap.size ≤ b) (hc : w.cell? ⟨b, o, none⟩ = some v) : w1.cell? ⟨b, o, none⟩ = some v :=
  (hk.cell (p := ⟨b, o, none⟩) (block_lt_of_cell hc) (fun e => by have := hS b e; omega)).trans hc

/-- A step's own copy of what was asked. -/
structure OpBox (W : World) (B : Nat) (a b l0 l1 l2 : Int) : Prop where
  c2 : W.cell? ⟨B, 2, none⟩ = some (.int .i64 a)
  c3 : W.cell? ⟨B, 3, none⟩ = some (.int .i64 b)
  c6 : W.cell? ⟨B, 6, none⟩ = some (.int .i64 l0)
  c7 : W.cell? ⟨B, 7, none⟩ = some (.int .i64 l1)
  c8 : W.cell? ⟨B, 8, none⟩ = some (.int .i64 l2)

theorem OpBox.keep {S : Nat → Prop} {W0 w w1 : World} {B : Nat} {a b l0 l1 l2 : Int} (h : OpBox w B a b l0 l1 l2) (hk : Keep S w w1) (hS : ∀ i, S i → i < W0.heap.size) (hb : W0.heap.size ≤ B) : OpBox w1 B a b l0 l1 l2 :=
  ⟨keep_new hk hS 2 hb h.c2, keep_new hk hS 3 hb h.c3, keep_new hk hS 6 hb h.c6, keep_new hk hS 7 hb h.c7, keep_new hk hS 8 hb h.c8⟩

/-- What is at hand when a desk was picked. -/
structure Picked (t : Nat) (W V : World) (L : LB) (sd : Nat → Dk) (Ls Ms : List Value) (c : Int) (k X : Nat) (kd a b l0 l1 l2 : Int) : Prop where
  law : LawIn t V L sd Ls Ms c
  went : Went W V L L
  lt : k < L.n
  le : W.heap.size ≤ V.heap.size
  X0 : W.heap.size ≤ X
  d : V.cell? ⟨X, 0, none⟩ = some (.pointer (some ⟨L.dk k, 0, none⟩))
  r : V.cell? ⟨X, 1, none⟩ = some (.pointer (some ⟨L.rf k, 0, none⟩))
  k0 : V.cell? ⟨W.heap.size, 0, none⟩ = some (.int .i64 kd)
  op : OpBox V W.heap.size a b l0 l1 l2
  deskLt : ∀ i, (i = L.dk k ∨ L.ch k = some i) → i < W.heap.size
  refLt : ∀ i, i = L.rf k → i < W.heap.size

theorem LawIn.atPick {t : Nat} {W V : World} {L : LB} {sd : Nat → Dk} {Ls Ms : List Value} {c : Int} (h : LawIn t W L sd Ls Ms c) {k X : Nat} (hk : k < L.n) {kd on a b n : Int} {s : ByteArray} {l0 l1 l2 : Int}
    (hX : XAt (W.alloc (.cells #[.int .i64 kd, .int .i64 on, .int .i64 a, .int .i64 b, .int .u64 n, .string s, .int .i64 l0, .int .i64 l1, .int .i64 l2] 46)) V L k X) : Picked t W V L sd Ls Ms c k X kd a b l0 l1 l2 := by
  have hb : Below W.heap.size W V := ((Below.refl _ W).alloc (Nat.le_refl _) _).trans (hX.bel.mono (by simp))
  have e := fun o => (cell_alloc_new W #[.int .i64 kd, .int .i64 on, .int .i64 a, .int .i64 b, .int .u64 n, .string s, .int .i64 l0, .int .i64 l1, .int .i64 l2] 46 o).1
  have hX0 := hX.le
  rw [World.size_alloc] at hX0
  have kc : ∀ o v, (W.alloc (.cells #[.int .i64 kd, .int .i64 on, .int .i64 a, .int .i64 b, .int .u64 n, .string s, .int .i64 l0, .int .i64 l1, .int .i64 l2] 46)).cell? ⟨W.heap.size, o, none⟩ = some v → V.cell? ⟨W.heap.size, o, none⟩ = some v := fun o v hv => kept_cell hX.bel (by simp) hv
  exact ⟨(h.below hb).1, (h.below hb).2, hk, hb.size, by omega, hX.d, hX.r, kc 0 _ (e 0), ⟨kc 2 _ (e 2), kc 3 _ (e 3), kc 6 _ (e 6), kc 7 _ (e 7), kc 8 _ (e 8)⟩, h.dw.deskLt hk, fun i hi => by rw [hi]; exact (h.dw.base (.ref k) _ (if_pos hk)).2⟩

theorem DW.rows {W : World} {L : LB} {s : Nat → Dk} {Ls Ms : List Value} {c : Int} (h : DW W L s Ls Ms c) : RowsAt W L.B L.lv L.mv Ls.length Ls Ms c := by
  have rM := h.but.rM id
  rw [h.but.rds.len] at rM
  refine ⟨h.but.x2 id, h.but.x3 id, h.but.x4 id, h.but.xz id, h.but.rL id, rM, fun g h1 h2 => ?_⟩
  have := h.apart .lists .marks g h1 h2
  cases this

theorem owns_base {w : World} {base base' : Nat} {e : TypeId} {size : Nat} {v : Value} {n : Nat} {xs : List Value} (h : w.ownsRow base e size v n xs) (hb : base' ≤ base) : w.ownsRow base' e size v n xs := by
  refine ⟨h.1, ?_⟩
  rcases h.2 with hn | ⟨g, cap, cur, rfl, h1, h2⟩
  · exact Or.inl hn
  · exact Or.inr ⟨g, cap, cur, rfl, Nat.le_trans hb h1, h2⟩

/-- The list that a desk gave lies in no part of the law's. -/
theorem LawIn.apartList {t : Nat} {V w1 : World} {L : LB} {sd : Nat → Dk} {Ls Ms : List Value} {c : Int} (hJ : LawIn t V L sd Ls Ms c) {k : Nat} (hk : k < L.n) {c' : Option Nat} {s' : Dk} (hc : c' = L.ch k ∨ ∃ j, V.heap.size ≤ j ∧ c' = some j) (hd : DeskAt w1 (L.dk k) c' s')
    {l : Value} {n : Nat} {xs : List Value} (hl : w1.ownsRow V.heap.size 25 1 l n xs) : ∀ g, l.ownBlock = some g → V.heap.size ≤ g ∧ L.B < g ∧ (∀ p, ({ L with ch := put L.ch k c' } : LB).at p ≠ some g) ∧ ¬ L.lb g := by
  intro g hg
  have hge := (owns_in hl g hg).1
  have hB : L.B < V.heap.size := (hJ.dw.base .own _ rfl).2
  refine ⟨hge, by omega, fun p hp => ?_, fun e => by have := (hJ.dw.lists g e).2.1; omega⟩
  have old : ∀ p, L.at p = some g → False := fun p hp => by have := (hJ.dw.base p g hp).2; omega
  cases p with
  | chan i =>
    have hp' : (if i < L.n then put L.ch k c' i else none) = some g := hp
    by_cases hi : i < L.n
    · rw [if_pos hi] at hp'
      by_cases e : i = k
      · subst e
        rw [put_same] at hp'
        subst hp'
        obtain ⟨_, made, _, _, buf, sn, rc, hch, _⟩ := hd
        rcases hl.2 with ⟨rfl, _⟩ | ⟨g', cap, cur, rfl, _, h2, _⟩
        · cases hg
        · obtain rfl : g' = g := by simpa [Value.ownBlock] using hg
          rw [hch] at h2
          cases h2
      · rw [put_other _ _ _ e] at hp'
        exact old (.chan i) ((if_pos hi).trans hp')
    · rw [if_neg hi] at hp'; cases hp'
  | own => exact old .own hp
  | desks => exact old .desks hp
  | lists => exact old .lists hp
  | marks => exact old .marks hp
  | desk i => exact old (.desk i) hp
  | ref i => exact old (.ref i) hp

/-- Batch's step, as a whole. -/
theorem listed_fin {t : Nat} {W V w1 w2 w3 w4 : World} {L : LB} {sd : Nat → Dk} {Ls Ms : List Value} {c : Int} (hJ : LawIn t V L sd Ls Ms c) (hW : Went W V L L) {k : Nat} (hk : k < L.n) {c' : Option Nat} {s' : Dk} (hc : c' = L.ch k ∨ ∃ j, V.heap.size ≤ j ∧ c' = some j) (hd : DeskAt w1 (L.dk k) c' s')
    (k1 : Keep (fun i => i = L.dk k ∨ L.ch k = some i) V w1) (hr : RefAt w2 (L.rf k) s') (k2 : Keep (fun i => i = L.rf k) w1 w2) (hf : s'.Fresh) (g0 : (sd k).given ≤ s'.given) (g1 : s'.given ≤ (sd k).given + 10000)
    {l : Value} {n : Nat} {xs : List Value} (hl : w1.ownsRow V.heap.size 25 1 l n xs) (hb : Below w2.heap.size w2 w3) (hn : n ≤ 10000) {x : Int} {lv' mv' lc : Value} {N4 : List Value} (hN : N4.length = 4)
    (hK : KS w3 L.B L.lv L.mv l x (c + 1) w4 lv' mv' lc (Ls ++ N4) (Ms ++ List.replicate 4 (.int .u64 x)) (n + 4) N4) : Stepped t W w4 L := by
  have ha := hJ.apartList hk hc hd hl
  obtain ⟨h2, went2⟩ := hJ.desked hk hc hd k1 hr k2 hf g0 g1
  obtain ⟨h3, went3⟩ := h2.below hb
  generalize hL1 : ({ L with ch := put L.ch k c' } : LB) = L1 at *
  have eB : L1.B = L.B := by rw [← hL1]
  have elv : L1.lv = L.lv := by rw [← hL1]
  have emv : L1.mv = L.mv := by rw [← hL1]
  have elb : L1.lb = L.lb := by rw [← hL1]
  rw [← eB, ← elv, ← emv] at hK
  have wentA := (hW.trans went2).trans went3
  have szW := hW.keep.size
  refine ⟨_, _, _, _, _, ⟨h3.dw.listed (fun g hg => ⟨by rw [eB]; exact (ha g hg).2.1, (ha g hg).2.2.1, by rw [elb]; exact (ha g hg).2.2.2⟩) hN (by omega) hK, h3.given, ?_, by have := hJ.c0; omega, by have := hJ.c1; omega⟩, wentA.listed (fun g hg => by have := (ha g hg).1; omega) hK⟩
  rw [List.length_append, hN]
  have := hJ.len
  omega
end Go.Proofs.YtdplffhieekfaaaDoor
