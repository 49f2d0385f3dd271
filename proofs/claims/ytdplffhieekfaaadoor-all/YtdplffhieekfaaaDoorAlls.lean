/-
  stampslaw's own world: its offices, each beside the document's.
  stampslaw's own world, whole: desks and offices; what a step of the one leaves of the other.
  One office of the law's world while it is asked: what it holds between two calls, and what a call leaves.
  One office of the law's world is asked for a lease, and the document's: one answer; the text that it told, a size more.
  stampslaw.lends: no office; Journal.
  Conditions: the law's world is in memory.
-/
import Derived.Test.YtdplffhieekfaaaDoorRefOf
import Derived.Test.YtdplffhieekfaaaDoorLawStepD
import Derived.BigQuiet
namespace Go.Proofs.YtdplffhieekfaaaDoor
open Go.RowKit Go.Maps Go.Lib

/-- The parts of one office of the law's world. -/
inductive Pt
  | box | off | map | bytes | ref | leases | sizes

/-- The blocks of one office of the law's world. -/
structure One where
  box : Nat
  off : Nat
  map : Nat
  bytes : Nat
  cap : Nat
  ref : Nat
  vL : Value
  vS : Value

def One.at (o : One) : Pt → Option Nat
  | .box => some o.box
  | .off => some o.off
  | .map => some o.map
  | .bytes => some o.bytes
  | .ref => some o.ref
  | .leases => o.vL.ownBlock
  | .sizes => o.vS.ownBlock

/-- An office as data. -/
structure Od where
  span : Nat
  ls : List L3

structure OneAt (W : World) (B : Nat) (o : One) (d : Od) : Prop where
  t0 : W.cell? ⟨o.box, 0, none⟩ = some (.pointer (some ⟨o.off, 0, none⟩))
  t1 : W.cell? ⟨o.box, 1, none⟩ = some (.pointer (some ⟨o.ref, 0, none⟩))
  t2 : W.cell? ⟨o.box, 2, none⟩ = some (.string (btext (jtext (recs d.ls))))
  tz : ∀ x, W.frozen? ⟨o.box, x, none⟩ = false
  off : OfficeAt W o.off o.map o.bytes o.cap d.span (recs d.ls)
  ref : ROffAt W (B + 1) o.ref d.span o.vL o.vS d.ls d.ls.length

/-- It stays while its blocks do. -/
theorem OneAt.on {W W' : World} {B : Nat} {o : One} {d : Od} (h : OneAt W B o d) (hb : ∀ p x, o.at p = some x → W'.heap[x]? = W.heap[x]?) : OneAt W' B o d := by
  have hx := hb .box _ rfl
  have hc : ∀ k, W'.cell? ⟨o.box, k, none⟩ = W.cell? ⟨o.box, k, none⟩ := fun k => World.cell?_of_block (w := W) hx
  exact ⟨(hc 0).trans h.t0, (hc 1).trans h.t1, (hc 2).trans h.t2, fun k => (World.frozen?_of_block (w := W) (a := ⟨o.box, k, none⟩) hx).trans (h.tz k), h.off.on (hb .off _ rfl) (hb .map _ rfl) (hb .bytes _ rfl), h.ref.on (hb .ref _ rfl) (fun x e => hb .leases x e) (fun x e => hb .sizes x e)⟩

theorem OneAt.lt {W : World} {B : Nat} {o : One} {d : Od} (h : OneAt W B o d) : ∀ p x, o.at p = some x → x < W.heap.size := by
  intro p x hp
  cases p with
  | box => obtain rfl := Option.some.inj hp; exact block_lt_of_cell h.t0
  | off => obtain rfl := Option.some.inj hp; exact h.off.lt.1
  | map => obtain rfl := Option.some.inj hp; exact h.off.lt.2.1
  | bytes => obtain rfl := Option.some.inj hp; exact h.off.lt.2.2
  | ref => obtain rfl := Option.some.inj hp; exact block_lt_of_cell h.ref.c0
  | leases => exact (owns_in h.ref.leases x hp).2
  | sizes => exact (owns_in h.ref.sizes x hp).2

/-- The offices of the law's world. -/
structure OB where
  v : Value
  n : Nat
  one : Nat → One

inductive OP
  | row
  | pt (k : Nat) (p : Pt)

def OB.at (O : OB) : OP → Option Nat
  | .row => O.v.ownBlock
  | .pt k p => if k < O.n then (O.one k).at p else none

def boxCells (O : OB) : List Value := (List.range O.n).map fun k => .pointer (some ⟨(O.one k).box, 0, none⟩)

structure OW (W : World) (B : Nat) (O : OB) (d : Nat → Od) : Prop where
  x1 : W.cell? ⟨B, 1, none⟩ = some O.v
  z1 : W.frozen? ⟨B, 1, none⟩ = false
  row : W.ownsRow (B + 1) 94 1 O.v O.n (boxCells O)
  one : ∀ k, k < O.n → OneAt W B (O.one k) (d k)
  apart : ∀ p q x, O.at p = some x → O.at q = some x → p = q
  base : ∀ p x, O.at p = some x → B < x
  n12 : O.n ≤ 12

theorem OW.lt {W : World} {B : Nat} {O : OB} {d : Nat → Od} (h : OW W B O d) : ∀ p x, O.at p = some x → x < W.heap.size := by
  intro p x hp
  cases p with
  | row => exact (owns_in h.row x hp).2
  | pt k p =>
    have hp' : (if k < O.n then (O.one k).at p else none) = some x := hp
    by_cases hk : k < O.n
    · rw [if_pos hk] at hp'; exact (h.one k hk).lt p x hp'
    · rw [if_neg hk] at hp'; cases hp'

/-- Nothing of the offices was written. -/
theorem OW.on {W W' : World} {B : Nat} {O : OB} {d : Nat → Od} (h : OW W B O d) (hb : ∀ p x, O.at p = some x → W'.heap[x]? = W.heap[x]?) (hx : W'.cell? ⟨B, 1, none⟩ = W.cell? ⟨B, 1, none⟩) (hz : W'.frozen? ⟨B, 1, none⟩ = W.frozen? ⟨B, 1, none⟩) : OW W' B O d :=
  ⟨hx.trans h.x1, hz.trans h.z1, owns_stay h.row (fun x e => hb .row x e), fun k hk => (h.one k hk).on (fun p x e => hb (.pt k p) x ((if_pos hk).trans e)), h.apart, h.base, h.n12⟩

/-- What became of the offices. -/
structure OWent (W W' : World) (B : Nat) (O O' : OB) : Prop where
  keep : Keep (fun i => (∃ p, O.at p = some i) ∨ i = B) W W'
  own : ∀ o, o ≠ 1 → W'.cell? ⟨B, o, none⟩ = W.cell? ⟨B, o, none⟩
  fz : ∀ o, W'.frozen? ⟨B, o, none⟩ = W.frozen? ⟨B, o, none⟩
  newAt : ∀ p x, O'.at p = some x → (∃ q, O.at q = some x) ∨ W.heap.size ≤ x

/-- One office was asked. -/
theorem OW.asked {W W' : World} {B : Nat} {O : OB} {d : Nat → Od} (h : OW W B O d) (hB : B < W.heap.size) {k : Nat} (hk : k < O.n) {o' : One} {d' : Od} (hbox : o'.box = (O.one k).box)
    (hn : ∀ p x, o'.at p = some x → (O.one k).at p = some x ∨ W.heap.size ≤ x) (hap : ∀ p q x, o'.at p = some x → o'.at q = some x → p = q)
    (hkp : Keep (fun i => ∃ p, (O.one k).at p = some i) W W') (hd : OneAt W' B o' d') :
    OW W' B { O with one := put O.one k o' } (put d k d') ∧ OWent W W' B O { O with one := put O.one k o' } := by
  have aK : ∀ p x, (O.one k).at p = some x → O.at (.pt k p) = some x := fun p x e => (if_pos hk).trans e
  have nB : ∀ p, (O.one k).at p ≠ some B := fun p e => by have := h.base _ _ (aK p B e); omega
  have hbB : W'.heap[B]? = W.heap[B]? := hkp.block B hB (fun ⟨p, e⟩ => nB p e)
  have hcB : ∀ x, W'.cell? ⟨B, x, none⟩ = W.cell? ⟨B, x, none⟩ := fun x => World.cell?_of_block (w := W) hbB
  have hzB : ∀ x, W'.frozen? ⟨B, x, none⟩ = W.frozen? ⟨B, x, none⟩ := fun x => World.frozen?_of_block (w := W) (a := ⟨B, x, none⟩) hbB
  have stay : ∀ q x, O.at q = some x → (∀ p, q ≠ .pt k p) → W'.heap[x]? = W.heap[x]? := fun q x hq hne => hkp.block x (h.lt q x hq) (fun ⟨p, e⟩ => hne p (h.apart q (.pt k p) x hq (aK p x e)))
  have atk : ∀ p, ({ O with one := put O.one k o' } : OB).at (.pt k p) = o'.at p := fun p => by
    show (if k < O.n then (put O.one k o' k).at p else none) = _
    rw [if_pos hk, put_same]
  have ato : ∀ q, (∀ p, q ≠ .pt k p) → ({ O with one := put O.one k o' } : OB).at q = O.at q := fun q hne => by
    cases q with
    | row => rfl
    | pt i p =>
      have hi : i ≠ k := fun e => hne p (by rw [e])
      show (if i < O.n then (put O.one k o' i).at p else none) = (if i < O.n then (O.one i).at p else none)
      rw [put_other _ _ _ hi]
  have dec : ∀ q, (∃ p, q = OP.pt k p) ∨ ∀ p, q ≠ OP.pt k p := fun q => by
    by_cases e : ∃ p, q = OP.pt k p
    · exact Or.inl e
    · exact Or.inr (fun p hp => e ⟨p, hp⟩)
  have newAt : ∀ p x, ({ O with one := put O.one k o' } : OB).at p = some x → O.at p = some x ∨ W.heap.size ≤ x := fun q x hq => by
    rcases dec q with ⟨p, rfl⟩ | hne
    · rw [atk] at hq
      rcases hn p x hq with e | e
      · exact Or.inl (aK p x e)
      · exact Or.inr e
    · rw [ato q hne] at hq; exact Or.inl hq
  refine ⟨⟨(hcB 1).trans h.x1, (hzB 1).trans h.z1, ?_, fun i hi => ?_, fun p q x hp hq => ?_, fun p x hp => ?_, h.n12⟩, ⟨hkp.mono (fun i _ ⟨p, e⟩ => Or.inl ⟨_, aK p i e⟩), fun x _ => hcB x, hzB, fun p x hp => ?_⟩⟩
  · have e : boxCells { O with one := put O.one k o' } = boxCells O := by
      unfold boxCells
      refine List.map_congr_left (fun i _ => ?_)
      show Value.pointer (some ⟨(put O.one k o' i).box, 0, none⟩) = _
      by_cases e : i = k
      · subst e; rw [put_same, hbox]
      · rw [put_other _ _ _ e]
    rw [e]
    exact owns_stay h.row (fun x hx => stay .row x hx (fun p e => by cases e))
  · show OneAt W' B (put O.one k o' i) (put d k d' i)
    by_cases e : i = k
    · subst e; rw [put_same, put_same]; exact hd
    · rw [put_other _ _ _ e, put_other _ _ _ e]
      exact (h.one i hi).on (fun p x hp => stay (.pt i p) x ((if_pos hi).trans hp) (fun q e2 => by cases e2; exact e rfl))
  · rcases dec p with ⟨p1, rfl⟩ | hp1 <;> rcases dec q with ⟨q1, rfl⟩ | hq1
    · rw [atk] at hp hq; rw [hap p1 q1 x hp hq]
    · rw [atk] at hp; rw [ato q hq1] at hq
      rcases hn p1 x hp with e | e
      · exact h.apart _ _ x (aK p1 x e) hq
      · have := h.lt q x hq; omega
    · rw [ato p hp1] at hp; rw [atk] at hq
      rcases hn q1 x hq with e | e
      · exact h.apart _ _ x hp (aK q1 x e)
      · have := h.lt p x hp; omega
    · rw [ato p hp1] at hp; rw [ato q hq1] at hq
      exact h.apart p q x hp hq
  · rcases newAt p x hp with e | e
    · exact h.base p x e
    · omega
  · rcases newAt p x hp with e | e
    · exact Or.inl ⟨p, e⟩
    · exact Or.inr e

/-- One office more. -/
theorem OW.more {W W2 W3 : World} {B : Nat} {O : OB} {d : Nat → Od} (h : OW W B O d) (hB : B < W.heap.size) (hb : Below W.heap.size W W2) (hn12 : O.n < 12) {o' : One} {d' : Od} (hn : ∀ p x, o'.at p = some x → W.heap.size ≤ x) (hap : ∀ p q x, o'.at p = some x → o'.at q = some x → p = q)
    (hd : OneAt W2 B o' d') {v : Value} {Z : Obj} (ho : W3.ownsRow (B + 1) 94 1 v (O.n + 1) (boxCells O ++ [.pointer (some ⟨o'.box, 0, none⟩)])) (hg : ((W2.alloc Z).drew).grownBy W3 O.v.ownBlock) (hl : v.ownBlock = O.v.ownBlock ∨ v.ownBlock = some (W2.heap.size + 1)) :
    OW (W3.setCell ⟨B, 1, none⟩ v) B { v := v, n := O.n + 1, one := put O.one O.n o' } (put d O.n d') ∧ OWent W (W3.setCell ⟨B, 1, none⟩ v) B O { v := v, n := O.n + 1, one := put O.one O.n o' } := by
  have s2 := hb.size
  have sz3 : W2.heap.size + 1 ≤ W3.heap.size := by have := hg.size; simp at this; omega
  have rB : O.v.ownBlock ≠ some B := fun e => by have := (owns_in h.row B e).1; omega
  have k3 : ∀ k, k < W2.heap.size → O.v.ownBlock ≠ some k → W3.heap[k]? = W2.heap[k]? := fun k hk hne => (hg.block k (show k < (W2.alloc Z).heap.size by simp; omega) (fun e => hne e.symm)).trans (heap_alloc_old W2 Z hk)
  have hsb : ∀ k, k ≠ B → (W3.setCell ⟨B, 1, none⟩ v).heap[k]? = W3.heap[k]? := fun k hk => Below.heap_setCell _ _ _ _ hk
  have kB3 : W3.heap[B]? = W.heap[B]? := (k3 B (by omega) rB).trans (hb.block B hB)
  have cB : ∀ x, W3.cell? ⟨B, x, none⟩ = W.cell? ⟨B, x, none⟩ := fun x => World.cell?_of_block (w := W) kB3
  have vB : v.ownBlock ≠ some B := fun e => by
    rcases hl with e2 | e2
    · exact rB (e2.symm.trans e)
    · rw [e2] at e; cases e; omega
  have stay : ∀ q x, O.at q = some x → q ≠ .row → (W3.setCell ⟨B, 1, none⟩ v).heap[x]? = W.heap[x]? := fun q x hq hne => by
    have hx := h.lt q x hq
    have hb0 := h.base q x hq
    rw [hsb x (by omega), k3 x (by omega) (fun e => hne (h.apart q .row x hq e)), hb.block x hx]
  have stay2 : ∀ p x, o'.at p = some x → (W3.setCell ⟨B, 1, none⟩ v).heap[x]? = W2.heap[x]? := fun p x hp => by
    have hx := hn p x hp
    rw [hsb x (by omega)]
    exact k3 x (hd.lt p x hp) (fun e => by have := (owns_in h.row x e).2; omega)
  have vnew : ∀ x, v.ownBlock = some x → O.at .row = some x ∨ W2.heap.size < x := fun x hx => by
    rcases hl with e | e
    · exact Or.inl (e.symm.trans hx)
    · rw [e] at hx; cases hx; right; omega
  generalize hO' : ({ v := v, n := O.n + 1, one := put O.one O.n o' } : OB) = O' at *
  have cls : ∀ p x, O'.at p = some x → (p = .row ∧ v.ownBlock = some x) ∨ (∃ q, p = .pt O.n q ∧ o'.at q = some x) ∨ (p ≠ .row ∧ (∀ q, p ≠ .pt O.n q) ∧ O.at p = some x) := fun p x hp => by
    subst hO'
    cases p with
    | row => exact Or.inl ⟨rfl, hp⟩
    | pt i q =>
      have hp' : (if i < O.n + 1 then (put O.one O.n o' i).at q else none) = some x := hp
      by_cases e : i = O.n
      · subst e; rw [if_pos (Nat.lt_succ_self _), put_same] at hp'; exact Or.inr (Or.inl ⟨q, rfl, hp'⟩)
      · by_cases hi : i < O.n
        · rw [if_pos (by omega), put_other _ _ _ e] at hp'
          exact Or.inr (Or.inr ⟨by simp, fun q' e2 => by cases e2; exact e rfl, (if_pos hi).trans hp'⟩)
        · rw [if_neg (by omega)] at hp'; cases hp'
  refine ⟨⟨?_, ?_, ?_, fun i hi => ?_, fun p q x hp hq => ?_, fun p x hp => ?_, ?_⟩, ⟨?_, fun x hx => ?_, fun x => ?_, fun p x hp => ?_⟩⟩
  · subst hO'; exact World.cell?_setCell_same _ _ _ ((cB 1).trans h.x1)
  · rw [World.frozen?_setCell]; exact (World.frozen?_of_block (w := W) (a := ⟨B, 1, none⟩) kB3).trans h.z1
  · have e : boxCells O' = boxCells O ++ [.pointer (some ⟨o'.box, 0, none⟩)] := by
      subst hO'
      unfold boxCells
      show (List.range (O.n + 1)).map _ = _
      rw [List.range_succ, List.map_append]
      congr 1
      · refine List.map_congr_left (fun i hi => ?_)
        have hi' : i < O.n := List.mem_range.1 hi
        show Value.pointer (some ⟨(put O.one O.n o' i).box, 0, none⟩) = _
        rw [put_other _ _ _ (by omega)]
      · show [Value.pointer (some ⟨(put O.one O.n o' O.n).box, 0, none⟩)] = _
        rw [put_same]
    rw [e]
    subst hO'
    exact owns_stay ho (fun x hx => hsb x (fun e => vB (e ▸ hx)))
  · subst hO'
    show OneAt _ B (put O.one O.n o' i) (put d O.n d' i)
    by_cases e : i = O.n
    · subst e; rw [put_same, put_same]; exact hd.on stay2
    · have hi' : i < O.n := by have : i < O.n + 1 := hi; omega
      rw [put_other _ _ _ e, put_other _ _ _ e]
      exact (h.one i hi').on (fun p x hp => stay (.pt i p) x ((if_pos hi').trans hp) (by simp))
  · rcases cls p x hp with ⟨a1, a2⟩ | ⟨p1, a1, a2⟩ | ⟨a1, a3, a2⟩ <;> rcases cls q x hq with ⟨b1, b2⟩ | ⟨q1, b1, b2⟩ | ⟨b1, b3, b2⟩
    · rw [a1, b1]
    · exfalso
      have h1 := hn q1 x b2
      have h2 := hd.lt q1 x b2
      rcases vnew x a2 with e | e
      · have := h.lt .row x e; omega
      · omega
    · exfalso
      have h2 := h.lt q x b2
      rcases vnew x a2 with e | e
      · exact b1 (h.apart q .row x b2 e)
      · omega
    · exfalso
      have h1 := hn p1 x a2
      have h2 := hd.lt p1 x a2
      rcases vnew x b2 with e | e
      · have := h.lt .row x e; omega
      · omega
    · rw [a1, b1, hap p1 q1 x a2 b2]
    · exfalso; have h1 := hn p1 x a2; have := h.lt q x b2; omega
    · exfalso
      have h2 := h.lt p x a2
      rcases vnew x b2 with e | e
      · exact a1 (h.apart p .row x a2 e)
      · omega
    · exfalso; have h1 := hn q1 x b2; have := h.lt p x a2; omega
    · exact h.apart p q x a2 b2
  · rcases cls p x hp with ⟨a1, a2⟩ | ⟨p1, a1, a2⟩ | ⟨a1, a3, a2⟩
    · rcases vnew x a2 with e | e
      · exact h.base .row x e
      · omega
    · have := hn p1 x a2; omega
    · exact h.base p x a2
  · subst hO'; show O.n + 1 ≤ 12; omega
  · have e1 : Keep (fun i => (∃ p, O.at p = some i) ∨ i = B) W W3 := ⟨hg.os.trans hb.os, hg.tape.trans hb.tape, hg.output.trans hb.output, by omega, fun k hk hne => (k3 k (by omega) (fun e => hne (Or.inl ⟨.row, e⟩))).trans (hb.block k hk)⟩
    exact e1.setCell (fun _ => Or.inr rfl) _
  · rw [World.cell?_setCell_other _ _ _ _ (by simp <;> omega)]; exact cB x
  · rw [World.frozen?_setCell]; exact World.frozen?_of_block (w := W) (a := ⟨B, x, none⟩) kB3
  · rcases cls p x hp with ⟨a1, a2⟩ | ⟨p1, a1, a2⟩ | ⟨a1, a3, a2⟩
    · rcases vnew x a2 with e | e
      · exact Or.inl ⟨_, e⟩
      · right; omega
    · right; exact hn p1 x a2
    · exact Or.inl ⟨p, a2⟩
end Go.Proofs.YtdplffhieekfaaaDoor
namespace Go.Proofs.YtdplffhieekfaaaDoor
open Go.RowKit Go.Maps Go.Lib

/-- The law's world behind so many steps, whole. -/
structure AllIn (t : Nat) (W : World) (L : LB) (s : Nat → Dk) (Ls Ms : List Value) (c : Int) (O : OB) (d : Nat → Od) : Prop where
  law : LawIn t W L s Ls Ms c
  off : OW W L.B O d
  ats : ∀ p q x, L.at p = some x → O.at q ≠ some x
  lbs : ∀ q x, L.lb x → O.at q ≠ some x
  len : ∀ k, k < O.n → (d k).ls.length ≤ t

def AllStepped (t : Nat) (W W' : World) (B : Nat) : Prop := (∃ L s Ls Ms c O d, AllIn (t + 1) W' L s Ls Ms c O d ∧ L.B = B) ∧ Below B W W'

/-- A step of the texts or the desks. -/
theorem AllIn.ofStep {t : Nat} {W W' : World} {L : LB} {s : Nat → Dk} {Ls Ms : List Value} {c : Int} {O : OB} {d : Nat → Od} (h : AllIn t W L s Ls Ms c O d) (hs : Stepped t W W' L) : AllStepped t W W' L.B := by
  obtain ⟨L', s', Ls', Ms', c', hI, hw⟩ := hs
  have hB : L.B < W.heap.size := (h.law.dw.base .own _ rfl).2
  have hz := hI.dw.but.xz id 1
  rw [hw.B] at hz
  have ho : OW W' L.B O d := h.off.on (fun q x hq => hw.keep.block x (h.off.lt q x hq) (fun ⟨p, e⟩ => h.ats p q x e hq)) hw.c1 (hz.trans h.off.z1.symm)
  refine ⟨⟨L', s', Ls', Ms', c', O, d, ⟨hI, by rw [hw.B]; exact ho, fun p q x hp hq => ?_, fun q x hx hq => ?_, fun k hk => by have := h.len k hk; omega⟩, hw.B⟩, hw.below (fun p x hp => (h.law.dw.base p x hp).1) (by omega)⟩
  · have hx := h.off.lt q x hq
    rcases hw.newAt p x hp with ⟨p0, e⟩ | e
    · exact h.ats p0 q x e hq
    · omega
  · have hx2 := h.off.lt q x hq
    rcases hw.newLb x hx with e | e
    · exact h.lbs q x e hq
    · omega

theorem AllIn.below {t : Nat} {W W' : World} {L : LB} {s : Nat → Dk} {Ls Ms : List Value} {c : Int} {O : OB} {d : Nat → Od} (h : AllIn t W L s Ls Ms c O d) (hb : Below W.heap.size W W') : AllIn t W' L s Ls Ms c O d := by
  have hB : L.B < W.heap.size := (h.law.dw.base .own _ rfl).2
  exact ⟨(h.law.below hb).1, h.off.on (fun q x hq => hb.block x (h.off.lt q x hq)) (hb.cell (p := ⟨L.B, 1, none⟩) hB) (hb.frozen (p := ⟨L.B, 1, none⟩) hB), h.ats, h.lbs, h.len⟩

theorem AllIn.later {t : Nat} {W : World} {L : LB} {s : Nat → Dk} {Ls Ms : List Value} {c : Int} {O : OB} {d : Nat → Od} (h : AllIn t W L s Ls Ms c O d) : AllIn (t + 1) W L s Ls Ms c O d :=
  ⟨h.law.later, h.off, h.ats, h.lbs, fun k hk => by have := h.len k hk; omega⟩

theorem AllIn.idle {t : Nat} {W W' : World} {L : LB} {s : Nat → Dk} {Ls Ms : List Value} {c : Int} {O : OB} {d : Nat → Od} (h : AllIn t W L s Ls Ms c O d) (hb : Below W.heap.size W W') : AllStepped t W W' L.B :=
  ⟨⟨L, s, Ls, Ms, c, O, d, (h.below hb).later, rfl⟩, hb.mono (Nat.le_of_lt (h.law.dw.base .own _ rfl).2)⟩

theorem DW.office {W W' : World} {L : LB} {s : Nat → Dk} {Ls Ms : List Value} {c : Int} {O O' : OB} (h : DW W L s Ls Ms c) (hw : OWent W W' L.B O O') (hat : ∀ p q x, L.at p = some x → O.at q ≠ some x) (hlb : ∀ q x, L.lb x → O.at q ≠ some x) : DW W' L s Ls Ms c := by
  have hk := h.kept' (fun p => p = .own) (fun i => ∃ q, O.at q = some i) (fun i ⟨q, hq⟩ => ⟨fun p hp => hat p q i hp hq, fun hl => hlb q i hl hq⟩) (hw.keep.mono (fun i _ e => by
    rcases e with e | e
    · exact Or.inr e
    · exact Or.inl ⟨.own, rfl, by rw [e]; rfl⟩))
  have szs := hw.keep.size
  refine ⟨⟨fun _ => (hw.own 0 (by omega)).trans (h.but.x0 id), fun _ => (hw.own 2 (by omega)).trans (h.but.x2 id), fun _ => (hw.own 3 (by omega)).trans (h.but.x3 id), fun _ => (hw.own 4 (by omega)).trans (h.but.x4 id), fun _ o => (hw.fz o).trans (h.but.xz id o), fun _ => hk.rD (by simp), fun _ => hk.rL (by simp), fun _ => hk.rM (by simp), fun i hi _ _ => hk.dsk i hi (by simp) (by simp), fun i hi _ => hk.ref i hi (by simp), hk.rds⟩, h.apart, fun p x hp => ⟨(h.base p x hp).1, Nat.lt_of_lt_of_le (h.base p x hp).2 szs⟩, fun b hb => ⟨(h.lists b hb).1, Nat.lt_of_lt_of_le (h.lists b hb).2.1 szs, (h.lists b hb).2.2⟩, h.fresh, h.n12⟩

/-- A step of the offices. -/
theorem AllIn.ofOffice {t : Nat} {W W' : World} {L : LB} {s : Nat → Dk} {Ls Ms : List Value} {c : Int} {O O' : OB} {d d' : Nat → Od} (h : AllIn t W L s Ls Ms c O d) (ho : OW W' L.B O' d') (hw : OWent W W' L.B O O') (hl : ∀ k, k < O'.n → (d' k).ls.length ≤ t + 1) : AllStepped t W W' L.B := by
  have hB : L.B < W.heap.size := (h.law.dw.base .own _ rfl).2
  have hd := h.law.dw.office hw h.ats h.lbs
  refine ⟨⟨L, s, Ls, Ms, c, O', d', ⟨{ h.law.later with dw := hd }, ho, fun p q x hp hq => ?_, fun q x hx hq => ?_, hl⟩, rfl⟩, hw.keep.below (by omega) (fun i hi e => ?_)⟩
  · rcases hw.newAt q x hq with ⟨q0, e⟩ | e
    · exact h.ats p q0 x hp e
    · have := (h.law.dw.base p x hp).2; omega
  · rcases hw.newAt q x hq with ⟨q0, e⟩ | e
    · exact h.lbs q0 x hx e
    · have := (h.law.dw.lists x hx).2.1; omega
  · rcases e with ⟨p, e⟩ | e
    · have := h.off.base p i e; omega
    · omega

theorem AllStepped.pre {t : Nat} {W W1 W2 : World} {B : Nat} (hb : Below B W W1) (hs : AllStepped t W1 W2 B) : AllStepped t W W2 B := ⟨hs.1, hb.trans hs.2⟩

/-- The offices at the start. -/
def OB.start : OB := ⟨.slice none 0 0, 0, fun _ => ⟨0, 0, 0, 0, 0, 0, .slice none 0 0, .slice none 0 0⟩⟩

theorem all_start (w : World) (T : TypeId) : AllIn 0 (w.alloc (.cells #[.slice none 0 0, .slice none 0 0, .slice none 0 0, .slice none 0 0, .int .u64 0] T)) (LB.start w.heap.size) (fun _ => newDk 0 0 1 0) [] [] 0 OB.start (fun _ => ⟨0, []⟩) := by
  have hc := cell_alloc_new w #[.slice none 0 0, .slice none 0 0, .slice none 0 0, .slice none 0 0, .int .u64 0] T
  have hno : ∀ q x, OB.start.at q ≠ some x := fun q x hq => by
    cases q with
    | row => cases hq
    | pt k p =>
      have : (if k < 0 then (OB.start.one k).at p else none) = some x := hq
      rw [if_neg (by omega)] at this; cases this
  exact ⟨law_start w T, ⟨(hc 1).1, (hc 1).2, owns_nil _ _ _ _, fun k hk => absurd hk (Nat.not_lt_zero k), fun p q x hp => absurd hp (hno p x), fun p x hp => absurd hp (hno p x), Nat.zero_le _⟩, fun p q x _ => hno q x, fun q x _ => hno q x, fun k hk => absurd hk (Nat.not_lt_zero k)⟩
end Go.Proofs.YtdplffhieekfaaaDoor
namespace Go.Proofs.YtdplffhieekfaaaDoor
open Go.RowKit Go.Maps Go.Lib

/-- One office: its box, what it told; its records; the document's leases and sizes. -/
structure St (w : World) (B : Nat) (o : One) (told : List UInt8) (span : Nat) (rs : List (Nat × Nat)) (ls : List L3) (ns : Nat) : Prop where
  t0 : w.cell? ⟨o.box, 0, none⟩ = some (.pointer (some ⟨o.off, 0, none⟩))
  t1 : w.cell? ⟨o.box, 1, none⟩ = some (.pointer (some ⟨o.ref, 0, none⟩))
  t2 : w.cell? ⟨o.box, 2, none⟩ = some (.string (btext told))
  tz : ∀ x, w.frozen? ⟨o.box, x, none⟩ = false
  off : OfficeAt w o.off o.map o.bytes o.cap span rs
  ref : ROffAt w (B + 1) o.ref span o.vL o.vS ls ns
  apart : ∀ p q x, o.at p = some x → o.at q = some x → p = q
  hB : B < w.heap.size

theorem St.lt {w : World} {B : Nat} {o : One} {told : List UInt8} {span : Nat} {rs : List (Nat × Nat)} {ls : List L3} {ns : Nat} (h : St w B o told span rs ls ns) : ∀ p x, o.at p = some x → x < w.heap.size := by
  intro p x hp
  cases p with
  | box => obtain rfl := Option.some.inj hp; exact block_lt_of_cell h.t0
  | off => obtain rfl := Option.some.inj hp; exact h.off.lt.1
  | map => obtain rfl := Option.some.inj hp; exact h.off.lt.2.1
  | bytes => obtain rfl := Option.some.inj hp; exact h.off.lt.2.2
  | ref => obtain rfl := Option.some.inj hp; exact block_lt_of_cell h.ref.c0
  | leases => exact (owns_in h.ref.leases x hp).2
  | sizes => exact (owns_in h.ref.sizes x hp).2

/-- It stays while its blocks do. -/
theorem St.on {w w' : World} {B : Nat} {o : One} {told : List UInt8} {span : Nat} {rs : List (Nat × Nat)} {ls : List L3} {ns : Nat} (h : St w B o told span rs ls ns) (hb : ∀ p x, o.at p = some x → w'.heap[x]? = w.heap[x]?) (hs : w.heap.size ≤ w'.heap.size) : St w' B o told span rs ls ns := by
  have hx := hb .box _ rfl
  have hc : ∀ k, w'.cell? ⟨o.box, k, none⟩ = w.cell? ⟨o.box, k, none⟩ := fun k => World.cell?_of_block (w := w) hx
  exact ⟨(hc 0).trans h.t0, (hc 1).trans h.t1, (hc 2).trans h.t2, fun k => (World.frozen?_of_block (w := w) (a := ⟨o.box, k, none⟩) hx).trans (h.tz k), h.off.on (hb .off _ rfl) (hb .map _ rfl) (hb .bytes _ rfl), h.ref.on (hb .ref _ rfl) (fun x e => hb .leases x e) (fun x e => hb .sizes x e), h.apart, Nat.lt_of_lt_of_le h.hB hs⟩

theorem St.below {w w' : World} {B : Nat} {o : One} {told : List UInt8} {span : Nat} {rs : List (Nat × Nat)} {ls : List L3} {ns : Nat} (h : St w B o told span rs ls ns) (hb : Below w.heap.size w w') : St w' B o told span rs ls ns :=
  h.on (fun p x hp => hb.block x (h.lt p x hp)) hb.size

theorem St.one {w : World} {B : Nat} {o : One} {span : Nat} {ls : List L3} (h : St w B o (jtext (recs ls)) span (recs ls) ls ls.length) : OneAt w B o ⟨span, ls⟩ :=
  ⟨h.t0, h.t1, h.t2, h.tz, h.off, h.ref⟩

theorem OneAt.st {w : World} {B : Nat} {o : One} {d : Od} (h : OneAt w B o d) (ha : ∀ p q x, o.at p = some x → o.at q = some x → p = q) (hB : B < w.heap.size) : St w B o (jtext (recs d.ls)) d.span (recs d.ls) d.ls d.ls.length :=
  ⟨h.t0, h.t1, h.t2, h.tz, h.off, h.ref, ha, hB⟩

/-- What a call leaves. -/
structure Stp (w w' : World) (o o' : One) : Prop where
  keep : Keep (fun i => ∃ p, o.at p = some i) w w'
  new : ∀ p x, o'.at p = some x → o.at p = some x ∨ w.heap.size ≤ x
  box : o'.box = o.box

theorem Stp.refl (w : World) (o : One) : Stp w w o o := ⟨Keep.refl _ w, fun _ _ h => Or.inl h, rfl⟩
theorem Stp.trans {w w1 w2 : World} {o o1 o2 : One} (a : Stp w w1 o o1) (b : Stp w1 w2 o1 o2) : Stp w w2 o o2 := by
  refine ⟨a.keep.trans' b.keep (fun i hi ⟨p, hp⟩ => ?_), fun p x hp => ?_, b.box.trans a.box⟩
  · rcases a.new p i hp with e | e
    · exact ⟨p, e⟩
    · omega
  · rcases b.new p x hp with e | e
    · exact a.new p x e
    · exact Or.inr (Nat.le_trans a.keep.size e)

theorem Stp.ofBelow {w w' : World} (o : One) (hb : Below w.heap.size w w') : Stp w w' o o := ⟨Keep.of_below hb, fun _ _ h => Or.inl h, rfl⟩

/-- Something else that lies there. -/
structure Beside (w : World) (o : One) (X : Nat) : Prop where
  lt : X < w.heap.size
  out : ∀ p, o.at p ≠ some X

theorem Beside.step {w w' : World} {o o' : One} {X : Nat} (h : Beside w o X) (hs : Stp w w' o o') : Beside w' o' X ∧ w'.heap[X]? = w.heap[X]? := by
  refine ⟨⟨Nat.lt_of_lt_of_le h.lt hs.keep.size, fun p hp => ?_⟩, hs.keep.block X h.lt (fun ⟨p, e⟩ => h.out p e)⟩
  rcases hs.new p X hp with e | e
  · exact h.out p e
  · have := h.lt; omega

/-- Three cells of something else. -/
structure Three (w : World) (o : One) (X : Nat) (x y z : Value) : Prop where
  at_ : Beside w o X
  c0 : w.cell? ⟨X, 0, none⟩ = some x
  c1 : w.cell? ⟨X, 1, none⟩ = some y
  c2 : w.cell? ⟨X, 2, none⟩ = some z

theorem Three.step {w w' : World} {o o' : One} {X : Nat} {x y z : Value} (h : Three w o X x y z) (hs : Stp w w' o o') : Three w' o' X x y z := by
  obtain ⟨a, b⟩ := h.at_.step hs
  exact ⟨a, (World.cell?_of_block (w := w) b).trans h.c0, (World.cell?_of_block (w := w) b).trans h.c1, (World.cell?_of_block (w := w) b).trans h.c2⟩

/-- A step's own copy of what was asked: its A and its B. -/
structure Asks (w : World) (o : One) (X : Nat) (a b : Int) : Prop where
  at_ : Beside w o X
  c2 : w.cell? ⟨X, 2, none⟩ = some (.int .i64 a)
  c3 : w.cell? ⟨X, 3, none⟩ = some (.int .i64 b)

theorem Asks.step {w w' : World} {o o' : One} {X : Nat} {a b : Int} (h : Asks w o X a b) (hs : Stp w w' o o') : Asks w' o' X a b := by
  obtain ⟨p, q⟩ := h.at_.step hs
  exact ⟨p, (World.cell?_of_block (w := w) q).trans h.c2, (World.cell?_of_block (w := w) q).trans h.c3⟩

/-- A call, and behind it three cells made of its answer. -/
theorem box_after {V w5 : World} {o o1 : One} (h : Stp V w5 o o1) (hl : ∀ p x, o1.at p = some x → x < w5.heap.size) (x y z : Value) (T : TypeId) : Stp V (w5.alloc (.cells #[x, y, z] T)) o o1 ∧ Stp w5 (w5.alloc (.cells #[x, y, z] T)) o1 o1 ∧ Three (w5.alloc (.cells #[x, y, z] T)) o1 w5.heap.size x y z := by
  have e := Stp.ofBelow o1 ((Below.refl w5.heap.size w5).alloc (Nat.le_refl _) (.cells #[x, y, z] T))
  have hc := cell_alloc_new w5 #[x, y, z] T
  exact ⟨h.trans e, e, ⟨⟨by simp, fun p hp => by have := hl p _ hp; omega⟩, (hc 0).1, (hc 1).1, (hc 2).1⟩⟩

/-- Three cells, then a call; its answer is stored there. -/
theorem box_before {V w5 : World} {o o1 : One} {T : TypeId} {x0 y0 z0 : Value} (hV : ∀ p x, o.at p = some x → x < V.heap.size) (h : Stp (V.alloc (.cells #[x0, y0, z0] T)) w5 o o1) (x y z : Value) :
    Stp V (((w5.setCell ⟨V.heap.size, 0, none⟩ x).setCell ⟨V.heap.size, 1, none⟩ y).setCell ⟨V.heap.size, 2, none⟩ z) o o1 ∧ (∀ p k, o1.at p = some k → (((w5.setCell ⟨V.heap.size, 0, none⟩ x).setCell ⟨V.heap.size, 1, none⟩ y).setCell ⟨V.heap.size, 2, none⟩ z).heap[k]? = w5.heap[k]?) ∧
      (((w5.setCell ⟨V.heap.size, 0, none⟩ x).setCell ⟨V.heap.size, 1, none⟩ y).setCell ⟨V.heap.size, 2, none⟩ z).heap.size = w5.heap.size ∧
      Three (((w5.setCell ⟨V.heap.size, 0, none⟩ x).setCell ⟨V.heap.size, 1, none⟩ y).setCell ⟨V.heap.size, 2, none⟩ z) o1 V.heap.size x y z := by
  have e := Stp.ofBelow o ((Below.refl V.heap.size V).alloc (Nat.le_refl _) (.cells #[x0, y0, z0] T))
  have hb : Beside (V.alloc (.cells #[x0, y0, z0] T)) o V.heap.size := ⟨by simp, fun p hp => by have := hV p _ hp; omega⟩
  obtain ⟨hb5, hh5⟩ := hb.step h
  have hc := cell_alloc_new V #[x0, y0, z0] T
  have ec : ∀ k, w5.cell? ⟨V.heap.size, k, none⟩ = (#[x0, y0, z0] : Array Value)[k]? := fun k => (World.cell?_of_block (w := V.alloc (.cells #[x0, y0, z0] T)) hh5).trans (hc k).1
  obtain ⟨q0, q1, q2⟩ := set_three w5 V.heap.size x y z (ec 0) (ec 1) (ec 2)
  have hh := e.trans h
  have hsz : (((w5.setCell ⟨V.heap.size, 0, none⟩ x).setCell ⟨V.heap.size, 1, none⟩ y).setCell ⟨V.heap.size, 2, none⟩ z).heap.size = w5.heap.size := by simp [World.setCell]
  refine ⟨⟨((hh.keep.setCell (fun h => absurd h (Nat.lt_irrefl _)) _).setCell (fun h => absurd h (Nat.lt_irrefl _)) _).setCell (fun h => absurd h (Nat.lt_irrefl _)) _, hh.new, hh.box⟩, fun p k hk => ?_, hsz, ⟨⟨by rw [hsz]; exact hb5.lt, hb5.out⟩, ?_, ?_, q2⟩⟩
  · have hne : k ≠ V.heap.size := fun e => hb5.out p (e ▸ hk)
    rw [Below.heap_setCell _ _ _ _ hne, Below.heap_setCell _ _ _ _ hne, Below.heap_setCell _ _ _ _ hne]
  · rw [World.cell?_setCell_other _ _ _ _ (by simp), World.cell?_setCell_other _ _ _ _ (by simp)]; exact q0
  · rw [World.cell?_setCell_other _ _ _ _ (by simp)]; exact q1
end Go.Proofs.YtdplffhieekfaaaDoor
namespace Go.Proofs.YtdplffhieekfaaaDoor
open Go.RowKit Go.Maps Go.Lib

theorem apart_new {n : Nat} {o o' : One} (ha : ∀ p q x, o.at p = some x → o.at q = some x → p = q) (hlt : ∀ p x, o.at p = some x → x < n) (P : Pt) (hoth : ∀ p, p ≠ P → o'.at p = o.at p) (hP : ∀ x, o'.at P = some x → o.at P = some x ∨ n ≤ x) :
    (∀ p q x, o'.at p = some x → o'.at q = some x → p = q) ∧ ∀ p x, o'.at p = some x → o.at p = some x ∨ n ≤ x := by
  have dec : ∀ p, p = P ∨ p ≠ P := fun p => Classical.em _
  refine ⟨fun p q x hp hq => ?_, fun p x hp => ?_⟩
  · rcases dec p with rfl | h1 <;> rcases dec q with rfl | h2
    · rfl
    · rw [hoth q h2] at hq
      rcases hP x hp with e | e
      · exact ha _ _ x e hq
      · have := hlt q x hq; omega
    · rw [hoth p h1] at hp
      rcases hP x hq with e | e
      · exact ha _ _ x hp e
      · have := hlt p x hp; omega
    · rw [hoth p h1] at hp; rw [hoth q h2] at hq
      exact ha p q x hp hq
  · rcases dec p with rfl | h1
    · exact hP x hp
    · rw [hoth p h1] at hp; exact Or.inl hp

/-- The office has changed, its map and its bytes. -/
theorem St.officed {w w' : World} {B : Nat} {o : One} {told : List UInt8} {span : Nat} {rs rs' : List (Nat × Nat)} {ls : List L3} {ns : Nat} (h : St w B o told span rs ls ns) (hk : Keep (fun k => k = o.off ∨ k = o.map ∨ k = o.bytes) w w') {g' cap' : Nat} (hg : g' = o.bytes ∨ w.heap.size ≤ g') (ho : OfficeAt w' o.off o.map g' cap' span rs') :
    Stp w w' o { o with bytes := g', cap := cap' } ∧ St w' B { o with bytes := g', cap := cap' } told span rs' ls ns := by
  have hap := apart_new (n := w.heap.size) (o := o) (o' := { o with bytes := g', cap := cap' }) h.apart h.lt .bytes (fun p hp => by cases p <;> first | rfl | exact absurd rfl hp) (fun x hx => by
    have e : g' = x := Option.some.inj hx
    rcases hg with e2 | e2
    · exact Or.inl (by rw [← e, e2]; rfl)
    · exact Or.inr (by omega))
  have stay : ∀ p x, o.at p = some x → p ≠ .off → p ≠ .map → p ≠ .bytes → w'.heap[x]? = w.heap[x]? := fun p x hp h1 h2 h3 => hk.block x (h.lt p x hp) (fun e => by
    rcases e with e | e | e
    · exact h1 (h.apart p .off x hp (by rw [e]; rfl))
    · exact h2 (h.apart p .map x hp (by rw [e]; rfl))
    · exact h3 (h.apart p .bytes x hp (by rw [e]; rfl)))
  have hx := stay .box _ rfl (by simp) (by simp) (by simp)
  have hc : ∀ k, w'.cell? ⟨o.box, k, none⟩ = w.cell? ⟨o.box, k, none⟩ := fun k => World.cell?_of_block (w := w) hx
  refine ⟨⟨hk.mono (fun i _ e => ?_), hap.2, rfl⟩, ⟨(hc 0).trans h.t0, (hc 1).trans h.t1, (hc 2).trans h.t2, fun k => (World.frozen?_of_block (w := w) (a := ⟨o.box, k, none⟩) hx).trans (h.tz k), ho, h.ref.on (stay .ref _ rfl (by simp) (by simp) (by simp)) (fun x e => stay .leases x e (by simp) (by simp) (by simp)) (fun x e => stay .sizes x e (by simp) (by simp) (by simp)), hap.1, Nat.lt_of_lt_of_le h.hB hk.size⟩⟩
  rcases e with e | e | e
  · exact ⟨.off, by rw [e]; rfl⟩
  · exact ⟨.map, by rw [e]; rfl⟩
  · exact ⟨.bytes, by rw [e]; rfl⟩

/-- The document's office has changed, and its leases. -/
theorem St.leased {w w' : World} {B : Nat} {o : One} {told : List UInt8} {span : Nat} {rs : List (Nat × Nat)} {ls ls' : List L3} {ns : Nat} (h : St w B o told span rs ls ns) {vL' : Value} (hk : Keep (fun i => i = o.ref ∨ o.vL.ownBlock = some i) w w') (hg : vL'.ownBlock = o.vL.ownBlock ∨ ∃ x, vL'.ownBlock = some x ∧ w.heap.size ≤ x) (ho : ROffAt w' (B + 1) o.ref span vL' o.vS ls' ns) :
    Stp w w' o { o with vL := vL' } ∧ St w' B { o with vL := vL' } told span rs ls' ns := by
  have hap := apart_new (n := w.heap.size) (o := o) (o' := { o with vL := vL' }) h.apart h.lt .leases (fun p hp => by cases p <;> first | rfl | exact absurd rfl hp) (fun x hx => by
    have e : vL'.ownBlock = some x := hx
    rcases hg with e2 | ⟨y, e2, e3⟩
    · exact Or.inl (e2.symm.trans e)
    · rw [e2] at e; cases e; exact Or.inr e3)
  have stay : ∀ p x, o.at p = some x → p ≠ .ref → p ≠ .leases → w'.heap[x]? = w.heap[x]? := fun p x hp h1 h2 => hk.block x (h.lt p x hp) (fun e => by
    rcases e with e | e
    · exact h1 (h.apart p .ref x hp (by rw [e]; rfl))
    · exact h2 (h.apart p .leases x hp e))
  have hx := stay .box _ rfl (by simp) (by simp)
  have hc : ∀ k, w'.cell? ⟨o.box, k, none⟩ = w.cell? ⟨o.box, k, none⟩ := fun k => World.cell?_of_block (w := w) hx
  refine ⟨⟨hk.mono (fun i _ e => ?_), hap.2, rfl⟩, ⟨(hc 0).trans h.t0, (hc 1).trans h.t1, (hc 2).trans h.t2, fun k => (World.frozen?_of_block (w := w) (a := ⟨o.box, k, none⟩) hx).trans (h.tz k), h.off.on (stay .off _ rfl (by simp) (by simp)) (stay .map _ rfl (by simp) (by simp)) (stay .bytes _ rfl (by simp) (by simp)), ho, hap.1, Nat.lt_of_lt_of_le h.hB hk.size⟩⟩
  rcases e with e | e
  · exact ⟨.ref, by rw [e]; rfl⟩
  · exact ⟨.leases, e⟩

/-- A size more. -/
theorem St.sized {w w1 : World} {B : Nat} {o : One} {told : List UInt8} {span : Nat} {rs : List (Nat × Nat)} {ls : List L3} {ns gg cap : Nat} {Z : Obj} (h : St w B o told span rs ls ns)
    (hown1 : w1.ownsRow (B + 1) 3 1 (.slice (some ⟨gg, 0, none⟩) (ns + 1) cap) (ns + 1) (sizeCells ns ++ [.int .i64 ((13 * (ns + 1) : Nat) : Int)])) (hgrow : ((w.alloc Z).drew).grownBy w1 o.vS.ownBlock) (hat : o.vS.ownBlock = some gg ∨ gg = w.heap.size + 1) :
    Stp w (w1.setCell ⟨o.ref, 2, none⟩ (.slice (some ⟨gg, 0, none⟩) (ns + 1) cap)) o { o with vS := .slice (some ⟨gg, 0, none⟩) (ns + 1) cap } ∧ St (w1.setCell ⟨o.ref, 2, none⟩ (.slice (some ⟨gg, 0, none⟩) (ns + 1) cap)) B { o with vS := .slice (some ⟨gg, 0, none⟩) (ns + 1) cap } told span rs ls (ns + 1) := by
  obtain ⟨ho, hk⟩ := h.ref.grewS hown1 hgrow hat
  generalize (w1.setCell ⟨o.ref, 2, none⟩ (.slice (some ⟨gg, 0, none⟩) (ns + 1) cap)) = w' at *
  have hap := apart_new (n := w.heap.size) (o := o) (o' := { o with vS := .slice (some ⟨gg, 0, none⟩) (ns + 1) cap }) h.apart h.lt .sizes (fun p hp => by cases p <;> first | rfl | exact absurd rfl hp) (fun x hx => by
    have e : gg = x := Option.some.inj hx
    rcases hat with e2 | e2
    · exact Or.inl (by rw [← e]; exact e2)
    · exact Or.inr (by omega))
  have stay : ∀ p x, o.at p = some x → p ≠ .ref → p ≠ .sizes → w'.heap[x]? = w.heap[x]? := fun p x hp h1 h2 => hk.block x (h.lt p x hp) (fun e => by
    rcases e with e | e
    · exact h1 (h.apart p .ref x hp (by rw [e]; rfl))
    · exact h2 (h.apart p .sizes x hp e))
  have hx := stay .box _ rfl (by simp) (by simp)
  have hc : ∀ k, w'.cell? ⟨o.box, k, none⟩ = w.cell? ⟨o.box, k, none⟩ := fun k => World.cell?_of_block (w := w) hx
  refine ⟨⟨hk.mono (fun i _ e => ?_), hap.2, rfl⟩, ⟨(hc 0).trans h.t0, (hc 1).trans h.t1, (hc 2).trans h.t2, fun k => (World.frozen?_of_block (w := w) (a := ⟨o.box, k, none⟩) hx).trans (h.tz k), h.off.on (stay .off _ rfl (by simp) (by simp)) (stay .map _ rfl (by simp) (by simp)) (stay .bytes _ rfl (by simp) (by simp)), ho, hap.1, Nat.lt_of_lt_of_le h.hB hk.size⟩⟩
  rcases e with e | e
  · exact ⟨.ref, by rw [e]; rfl⟩
  · exact ⟨.sizes, e⟩

/-- What it told is written. -/
theorem St.wrote {w : World} {B : Nat} {o : One} {told : List UInt8} {span : Nat} {rs : List (Nat × Nat)} {ls : List L3} {ns : Nat} (h : St w B o told span rs ls ns) (t : List UInt8) :
    Stp w (w.setCell ⟨o.box, 2, none⟩ (.string (btext t))) o o ∧ St (w.setCell ⟨o.box, 2, none⟩ (.string (btext t))) B o t span rs ls ns := by
  have stay : ∀ p x, o.at p = some x → p ≠ .box → (w.setCell ⟨o.box, 2, none⟩ (.string (btext t))).heap[x]? = w.heap[x]? := fun p x hp h1 => Below.heap_setCell _ _ _ _ (fun e => h1 (h.apart p .box x hp (by
    have e' : x = o.box := e
    rw [e']; rfl)))
  have hc : ∀ k, k ≠ 2 → (w.setCell ⟨o.box, 2, none⟩ (.string (btext t))).cell? ⟨o.box, k, none⟩ = w.cell? ⟨o.box, k, none⟩ := fun k hk => World.cell?_setCell_other _ _ _ _ (by simp <;> omega)
  refine ⟨⟨(Keep.refl _ w).setCell (p := ⟨o.box, 2, none⟩) (fun _ => ⟨.box, rfl⟩) _, fun p x hp => Or.inl hp, rfl⟩, ⟨(hc 0 (by omega)).trans h.t0, (hc 1 (by omega)).trans h.t1, World.cell?_setCell_same _ _ _ h.t2, fun k => by rw [World.frozen?_setCell]; exact h.tz k, h.off.on (stay .off _ rfl (by simp)) (stay .map _ rfl (by simp)) (stay .bytes _ rfl (by simp)), h.ref.on (stay .ref _ rfl (by simp)) (fun x e => stay .leases x e (by simp)) (fun x e => stay .sizes x e (by simp)), h.apart, ?_⟩⟩
  have : (w.setCell ⟨o.box, 2, none⟩ (.string (btext t))).heap.size = w.heap.size := by simp [World.setCell]
  rw [this]; exact h.hB

/-- One answer of the two. -/
structure Answers (span : Nat) (ls ls' : List L3) (nd now l0 l1 l2 er : Int) : Prop where
  prog : ∀ w B o told ns, St w B o told span (recs ls) ls ns → Calls Tryd.prog 57 #[.pointer (some ⟨o.off, 0, none⟩), .int .i64 nd, .int .i64 now] w fun e w' => e = .returned (.tuple #[.agg #[.int .i64 l0, .int .i64 l1, .int .i64 l2], .int .i64 er]) ∧
    ∃ g' cap', Stp w w' o { o with bytes := g', cap := cap' } ∧ St w' B { o with bytes := g', cap := cap' } told span (recs ls') ls ns
  doc : ∀ w B o told ns, St w B o told span (recs ls') ls ns → Calls Tryd.prog 58 #[.pointer (some ⟨o.ref, 0, none⟩), .int .i64 nd, .int .i64 now] w fun e w' => e = .returned (.tuple #[.agg #[.int .i64 l0, .int .i64 l1, .int .i64 l2], .int .i64 er]) ∧
    ∃ vL', Stp w w' o { o with vL := vL' } ∧ St w' B { o with vL := vL' } told span (recs ls') ls' ns

theorem answers_of {span : Nat} {ls : List L3} (hg : Good (recs ls)) (hlen : ls.length ≤ 3000000000000) (s1 : 1 ≤ span) (s2 : span ≤ 1000000) (nd now : Int) (h1 : -9223372036854775808 ≤ now) (h2 : now ≤ 9223372036854775807) :
    ∃ l0 l1 l2 er ls', Answers span ls ls' nd now l0 l1 l2 er ∧ ((er ≠ 0 ∧ ls' = ls) ∨ (er = 0 ∧ ∃ l, ls' = ls ++ [l])) := by
  have no : ∀ er, (∀ w b m g cap, OfficeAt w b m g cap span (recs ls) → Calls Tryd.prog 57 #[.pointer (some ⟨b, 0, none⟩), .int .i64 nd, .int .i64 now] w fun e w' => e = .returned (.tuple #[.agg #[.int .i64 0, .int .i64 0, .int .i64 0], .int .i64 er]) ∧ Below w.heap.size w w') →
      (∀ w B r vL vS ns, ROffAt w (B + 1) r span vL vS ls ns → B < w.heap.size → Calls Tryd.prog 58 #[.pointer (some ⟨r, 0, none⟩), .int .i64 nd, .int .i64 now] w fun e w' => e = .returned (.tuple #[.agg #[.int .i64 0, .int .i64 0, .int .i64 0], .int .i64 er]) ∧ Below w.heap.size w w') →
      Answers span ls ls nd now 0 0 0 er := fun er ha hb =>
    ⟨fun w B o told ns h => (ha w _ _ _ _ h.off).mono fun e w' ⟨he, hw⟩ => ⟨he, o.bytes, o.cap, Stp.ofBelow o hw, h.below hw⟩,
     fun w B o told ns h => (hb w B _ _ _ _ h.ref h.hB).mono fun e w' ⟨he, hw⟩ => ⟨he, o.vL, Stp.ofBelow o hw, h.below hw⟩⟩
  by_cases hn : nd < 0 ∨ 1024 ≤ nd
  · exact ⟨0, 0, 0, 3, ls, no 3 (fun w b _ _ _ _ => lease_node b nd now w hn) (fun w _ r _ _ _ _ _ => rlease_node r nd now w hn), Or.inl ⟨by omega, rfl⟩⟩
  · obtain ⟨node, rfl⟩ : ∃ node : Nat, nd = (node : Int) := ⟨nd.toNat, by omega⟩
    have hn' : node < 1024 := by omega
    have hrl : (recs ls).length = ls.length := recs_length ls
    by_cases hsp : 2199023255552 - (span : Int) < fromOf now (fenceOf (recs ls) node)
    · refine ⟨0, 0, 0, 7, ls, no 7 (fun w b m g cap h => lease_spent h node now hn' h1 h2 hsp) (fun w B r vL vS ns h hB => ?_), Or.inl ⟨by omega, rfl⟩⟩
      refine (rlease_any h hg node now hn' h1 h2 hlen s1 s2 (by omega)).mono ?_
      rintro e w' (⟨_, he, hw⟩ | ⟨fr, hf, hto, _⟩)
      · exact ⟨he, hw⟩
      · omega
    · have h0 : 0 ≤ fromOf now (fenceOf (recs ls) node) := by unfold fromOf; omega
      obtain ⟨fr, hfr⟩ : ∃ fr : Nat, (fr : Int) = fromOf now (fenceOf (recs ls) node) := ⟨(fromOf now (fenceOf (recs ls) node)).toNat, Int.toNat_of_nonneg h0⟩
      refine ⟨node, fr, fr + span, 0, ls ++ [⟨node, fr, fr + span⟩], ⟨fun w B o told ns h => ?_, fun w B o told ns h => ?_⟩, Or.inr ⟨rfl, _, rfl⟩⟩
      · refine (lease_any h.off node now hn' h1 h2 (by rw [hrl]; omega)).mono ?_
        rintro e w' (⟨_, _, hx⟩ | ⟨fr', hf', hto, he, hL⟩)
        · exact absurd hx hsp
        · obtain rfl : fr' = fr := by omega
          obtain ⟨g', cap', hg', ho'⟩ := hL.off
          refine ⟨he, g', cap', ?_⟩
          rw [recs_snoc]
          exact h.officed hL.keep hg' ho'
      · refine (rlease_any h.ref hg node now hn' h1 h2 hlen s1 s2 (by have := h.hB; omega)).mono ?_
        rintro e w' (⟨hx, _⟩ | ⟨fr', hf', hto, he, vL', hR, hv, hk⟩)
        · exact absurd hx hsp
        · obtain rfl : fr' = fr := by omega
          exact ⟨he, vL', h.leased hk hv hR⟩
end Go.Proofs.YtdplffhieekfaaaDoor
namespace Go.Proofs.YtdplffhieekfaaaDoor
open Go.RowKit Go.Maps Go.Lib

theorem boxCells_get (O : OB) (k : Nat) (hk : k < O.n) : (boxCells O)[k]? = some (.pointer (some ⟨(O.one k).box, 0, none⟩)) := by
  unfold boxCells
  rw [List.getElem?_map, List.getElem?_range hk]
  rfl

theorem AllIn.pickedO {t : Nat} {W : World} {L : LB} {s : Nat → Dk} {Ls Ms : List Value} {c : Int} {O : OB} {d : Nat → Od} (h : AllIn t W L s Ls Ms c O d) (hn : 0 < O.n) (on : Int) (h0 : -9223372036854775808 ≤ on) (h1 : on ≤ 9223372036854775807) :
    ∃ g cap k, k < O.n ∧ W.cell? ⟨L.B, 1, none⟩ = some (.slice (some ⟨g, 0, none⟩) O.n cap) ∧ W.cell? ⟨g, k, none⟩ = some (.pointer (some ⟨(O.one k).box, 0, none⟩)) ∧ ∀ w, Calls Tryd.prog 46 #[.int .i64 on, .int .i64 O.n] w fun e w' => e = .returned (.int .i64 (k : Nat)) ∧ w' = w := by
  obtain ⟨g, cap, e⟩ := owns_some h.off.row hn
  have n12 := h.off.n12
  obtain ⟨p0, p1⟩ := pickI_range on O.n (by omega)
  obtain ⟨k, hk⟩ : ∃ k : Nat, pickI on O.n = k := ⟨(pickI on O.n).toNat, by omega⟩
  have hkn : k < O.n := by omega
  have c0 := h.off.row.cells (g := g) (by rw [e]; rfl) _ _ (boxCells_get O k hkn)
  rw [addr_add0] at c0
  refine ⟨g, cap, k, hkn, by rw [h.off.x1, e], c0, fun w => ?_⟩
  have := lpick_any on O.n w h0 h1 (by omega)
  rw [hk] at this
  exact this

theorem AllIn.st {t : Nat} {W : World} {L : LB} {s : Nat → Dk} {Ls Ms : List Value} {c : Int} {O : OB} {d : Nat → Od} (h : AllIn t W L s Ls Ms c O d) {k : Nat} (hk : k < O.n) : St W L.B (O.one k) (jtext (recs (d k).ls)) (d k).span (recs (d k).ls) (d k).ls (d k).ls.length :=
  (h.off.one k hk).st (fun p q x hp hq => by
    have := h.off.apart (.pt k p) (.pt k q) x ((if_pos hk).trans hp) ((if_pos hk).trans hq)
    cases this
    rfl) (h.law.dw.base .own _ rfl).2

/-- One office was asked, in the law's world. -/
theorem AllIn.askedO {t : Nat} {W V W' : World} {L : LB} {s : Nat → Dk} {Ls Ms : List Value} {c : Int} {O : OB} {d : Nat → Od} (h : AllIn t W L s Ls Ms c O d) (hb : Below W.heap.size W V) {k : Nat} (hk : k < O.n) {o' : One} {ls' : List L3} (hs : Stp V W' (O.one k) o') (ho : St W' L.B o' (jtext (recs ls')) (d k).span (recs ls') ls' ls'.length) (hl : ls'.length ≤ (d k).ls.length + 1) : AllStepped t W W' L.B := by
  have hV := h.below hb
  have hB : L.B < V.heap.size := (hV.law.dw.base .own _ rfl).2
  obtain ⟨h1, h2⟩ := hV.off.asked hB hk (o' := o') (d' := ⟨(d k).span, ls'⟩) hs.box hs.new ho.apart hs.keep ho.one
  refine AllStepped.pre (hb.mono (Nat.le_of_lt (h.law.dw.base .own _ rfl).2)) (hV.ofOffice h1 h2 (fun i hi => ?_))
  have hi' : i < O.n := hi
  by_cases e : i = k
  · subst e; rw [put_same]; have := h.len i hi'; show ls'.length ≤ _; omega
  · rw [put_other _ _ _ e]; have := h.len i hi'; omega

set_option maxRecDepth 100000 in
set_option maxHeartbeats 2000000 in
theorem lends_none {t : Nat} {W : World} {L : LB} {sd : Nat → Dk} {Ls Ms : List Value} {c : Int} {O : OB} {d : Nat → Od} (hI : AllIn t W L sd Ls Ms c O d) (hn : O.n = 0) (kd on a b n : Int) (s : ByteArray) (l0 l1 l2 : Int) :
    Calls Tryd.prog 27 #[.pointer (some ⟨L.B, 0, none⟩), .agg #[.int .i64 kd, .int .i64 on, .int .i64 a, .int .i64 b, .int .u64 n, .string s, .int .i64 l0, .int .i64 l1, .int .i64 l2]] W fun e W' => e = .returned (.bool true) ∧ AllStepped t W W' L.B := by
  obtain ⟨va, vcap, hv⟩ := owns_slice hI.off.row
  have x1 := hI.off.x1
  rw [hv, hn] at x1
  have hBlt : L.B < W.heap.size := (hI.law.dw.base .own _ rfl).2
  have hfin : Hid (∀ W', Below W.heap.size W W' → AllStepped t W W' L.B) := fun W' h => hI.idle h
  clear hI hv
  go_enter Tryd.func27, Tryd.ntmps27
  go_wp2
  go_ret
  exact ⟨rfl, hfin.out _ ((Below.refl _ W).alloc (Nat.le_refl _) _)⟩

set_option maxRecDepth 100000 in
set_option maxHeartbeats 4000000 in
theorem lends_journal {t : Nat} {W : World} {L : LB} {sd : Nat → Dk} {Ls Ms : List Value} {c : Int} {O : OB} {d : Nat → Od} (hI : AllIn t W L sd Ls Ms c O d) (hn : 0 < O.n) (on a b n : Int) (s : ByteArray) (l0 l1 l2 : Int) (o0 : -9223372036854775808 ≤ on) (o1 : on ≤ 9223372036854775807) :
    Calls Tryd.prog 27 #[.pointer (some ⟨L.B, 0, none⟩), .agg #[.int .i64 12, .int .i64 on, .int .i64 a, .int .i64 b, .int .u64 n, .string s, .int .i64 l0, .int .i64 l1, .int .i64 l2]] W fun e W' => e = .returned (.bool true) ∧ AllStepped t W W' L.B := by
  obtain ⟨g, cap, k, hk, p1, pk, hpick⟩ := hI.pickedO hn on o0 o1
  have hBlt : L.B < W.heap.size := (hI.law.dw.base .own _ rfl).2
  have hglt : g < W.heap.size := block_lt_of_cell pk
  have hL0 : ((O.n : Int) == 0) = false := by rw [beq_eq_false_iff_ne]; omega
  have n12 : (O.n : Int) ≤ 12 := by have := hI.off.n12; omega
  have hk0 : (0 : Int) ≤ (k : Int) := by omega
  have hk1 : (k : Int) < (O.n : Int) := by omega
  replace hI : Hid _ := hI
  go_enter Tryd.func27, Tryd.ntmps27
  go_wp2_with fail
  go_quiet ((go_at_call 46; exact Calls.quiet_of_same (hpick _)))
  obtain ⟨V, hV⟩ : ∃ V, V = (W.alloc (.cells #[.int .i64 12, .int .i64 on, .int .i64 a, .int .i64 b, .int .u64 n, .string s, .int .i64 l0, .int .i64 l1, .int .i64 l2] 46)).drewN nq := ⟨_, rfl⟩
  rw [← hV]
  have hb : Hid (Below W.heap.size W V) := by show Below _ _ _; rw [hV]; exact below_drewN ((Below.refl _ W).alloc (Nat.le_refl _) _) nq
  have v0 : V.cell? ⟨W.heap.size, 0, none⟩ = some (.int .i64 12) := by rw [hV]; exact (cell_alloc_new W #[.int .i64 12, .int .i64 on, .int .i64 a, .int .i64 b, .int .u64 n, .string s, .int .i64 l0, .int .i64 l1, .int .i64 l2] 46 0).1
  have hst := (hI.out.below hb.out).st hk
  have t0 := hst.t0
  have t2 := hst.t2
  have hj := journal_any hst.off
  replace hV : Hid _ := hV
  clear hst p1 pk hglt
  go_wp2_with fail
  refine hj.mono ?_
  rintro e w1 ⟨rfl, rfl⟩
  clear hj
  go_wp2
  go_ret
  exact ⟨rfl, hI.out.idle hb.out⟩
end Go.Proofs.YtdplffhieekfaaaDoor
