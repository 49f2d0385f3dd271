/-
  A fleet that grows: its desks are made one behind the other; the four rows grow by append.
-/
import Derived.Test.YtdplffhieekfaaaFleetSteps
namespace Go.Proofs.Ytdplffhieekfaaa
open Go.RowKit Go.Maps Go.Lib

/-- The blocks of a fleet that grows. -/
structure GB where
  X : Nat
  b : Nat
  m : Nat
  g : Nat
  cap : Nat
  span : Nat
  vD : Value
  vN : Value
  vC : Value
  vT : Value
  dk : Nat → Nat
  n : Nat

def GB.at (G : GB) : Part → Option Nat
  | .own => some G.X
  | .desks => G.vD.ownBlock
  | .nodes => G.vN.ownBlock
  | .clocks => G.vC.ownBlock
  | .last => G.vT.ownBlock
  | .all => none
  | .office => some G.b
  | .map => some G.m
  | .row => some G.g
  | .desk k => if k < G.n then some (G.dk k) else none
  | .chan _ => none

/-- A fleet that grows, in memory, but for the parts of R; lD lN lC lT: what the rows hold. -/
structure GrowBut (R : Part → Prop) (B : Nat) (W : World) (G : GB) (rs : List (Nat × Nat)) (s : Nat → Dk) (lD lN lC lT : List Value) : Prop where
  x0 : ¬ R .own → W.cell? ⟨G.X, 0, none⟩ = some G.vD
  x1 : ¬ R .own → W.cell? ⟨G.X, 1, none⟩ = some G.vN
  x2 : ¬ R .own → W.cell? ⟨G.X, 2, none⟩ = some G.vC
  x3 : ¬ R .own → W.cell? ⟨G.X, 3, none⟩ = some G.vT
  x4 : ¬ R .own → W.cell? ⟨G.X, 4, none⟩ = some (.pointer (some ⟨G.b, 0, none⟩))
  x5 : ¬ R .own → W.cell? ⟨G.X, 5, none⟩ = some (.slice none 0 0)
  xz : ¬ R .own → ∀ o, W.frozen? ⟨G.X, o, none⟩ = false
  rD : ¬ R .desks → W.ownsRow B 35 1 G.vD lD.length lD
  rN : ¬ R .nodes → W.ownsRow B 3 1 G.vN lN.length lN
  rC : ¬ R .clocks → W.ownsRow B 3 1 G.vC lC.length lC
  rT : ¬ R .last → W.ownsRow B 22 1 G.vT lT.length lT
  dsk : ∀ k, k < G.n → ¬ R (.desk k) → DeskAt W (G.dk k) none (s k)
  off : ¬ R .office → ¬ R .map → ¬ R .row → OfficeAt W G.b G.m G.g G.cap G.span rs

theorem GrowBut.on {R R' : Part → Prop} {B : Nat} {W W' : World} {G : GB} {rs : List (Nat × Nat)} {s : Nat → Dk} {lD lN lC lT : List Value} (h : GrowBut R B W G rs s lD lN lC lT) (hk : ∀ p x, G.at p = some x → ¬ R' p → W'.heap[x]? = W.heap[x]?) : GrowBut (fun p => R p ∨ R' p) B W' G rs s lD lN lC lT := by
  have hc : ∀ p x o, G.at p = some x → ¬ R' p → W'.cell? ⟨x, o, none⟩ = W.cell? ⟨x, o, none⟩ := fun p x o h1 h2 => World.cell?_of_block (w := W) (hk p x h1 h2)
  have hz : ∀ p x o, G.at p = some x → ¬ R' p → W'.frozen? ⟨x, o, none⟩ = W.frozen? ⟨x, o, none⟩ := fun p x o h1 h2 => World.frozen?_of_block (w := W) (a := ⟨x, o, none⟩) (hk p x h1 h2)
  have a1 : ∀ {p}, ¬ (R p ∨ R' p) → ¬ R p := fun hn h => hn (Or.inl h)
  have a2 : ∀ {p}, ¬ (R p ∨ R' p) → ¬ R' p := fun hn h => hn (Or.inr h)
  exact ⟨fun n => (hc .own _ _ rfl (a2 n)).trans (h.x0 (a1 n)), fun n => (hc .own _ _ rfl (a2 n)).trans (h.x1 (a1 n)), fun n => (hc .own _ _ rfl (a2 n)).trans (h.x2 (a1 n)), fun n => (hc .own _ _ rfl (a2 n)).trans (h.x3 (a1 n)),
    fun n => (hc .own _ _ rfl (a2 n)).trans (h.x4 (a1 n)), fun n => (hc .own _ _ rfl (a2 n)).trans (h.x5 (a1 n)), fun n o => (hz .own _ _ rfl (a2 n)).trans (h.xz (a1 n) o),
    fun n => owns_on (h.rD (a1 n)) (fun x hx => hk .desks x hx (a2 n)), fun n => owns_on (h.rN (a1 n)) (fun x hx => hk .nodes x hx (a2 n)), fun n => owns_on (h.rC (a1 n)) (fun x hx => hk .clocks x hx (a2 n)), fun n => owns_on (h.rT (a1 n)) (fun x hx => hk .last x hx (a2 n)),
    fun k hk' n1 => (h.dsk k hk' (a1 n1)).on (hk (.desk k) _ (if_pos hk') (a2 n1)) (fun x hx => by cases hx),
    fun n1 n2 n3 => (h.off (a1 n1) (a1 n2) (a1 n3)).on (hk .office _ rfl (a2 n1)) (hk .map _ rfl (a2 n2)) (hk .row _ rfl (a2 n3))⟩

structure GrowAt (B : Nat) (W : World) (G : GB) (rs : List (Nat × Nat)) (s : Nat → Dk) (lD lN lC lT : List Value) : Prop where
  but : GrowBut none' B W G rs s lD lN lC lT
  apart : ∀ p q x, G.at p = some x → G.at q = some x → p = q
  base : ∀ p x, G.at p = some x → B ≤ x ∧ x < W.heap.size

theorem GrowAt.other {B : Nat} {W W' : World} {G : GB} {rs : List (Nat × Nat)} {s : Nat → Dk} {lD lN lC lT : List Value} (h : GrowAt B W G rs s lD lN lC lT) (hk : ∀ p z, G.at p = some z → W'.heap[z]? = W.heap[z]?) (hs : W.heap.size ≤ W'.heap.size) : GrowAt B W' G rs s lD lN lC lT := by
  have hn := h.but.on (W' := W') (R' := none') (fun p x hp _ => hk p x hp)
  exact ⟨⟨fun _ => hn.x0 (fun e => e.elim id id), fun _ => hn.x1 (fun e => e.elim id id), fun _ => hn.x2 (fun e => e.elim id id), fun _ => hn.x3 (fun e => e.elim id id), fun _ => hn.x4 (fun e => e.elim id id), fun _ => hn.x5 (fun e => e.elim id id), fun _ => hn.xz (fun e => e.elim id id),
    fun _ => hn.rD (fun e => e.elim id id), fun _ => hn.rN (fun e => e.elim id id), fun _ => hn.rC (fun e => e.elim id id), fun _ => hn.rT (fun e => e.elim id id),
    fun k hk _ => hn.dsk k hk (fun e => e.elim id id), fun _ _ _ => hn.off (fun e => e.elim id id) (fun e => e.elim id id) (fun e => e.elim id id)⟩, h.apart, fun p x hp => ⟨(h.base p x hp).1, Nat.lt_of_lt_of_le (h.base p x hp).2 hs⟩⟩

theorem GrowAt.below {B : Nat} {W W' : World} {G : GB} {rs : List (Nat × Nat)} {s : Nat → Dk} {lD lN lC lT : List Value} (h : GrowAt B W G rs s lD lN lC lT) (hb : Below W.heap.size W W') : GrowAt B W' G rs s lD lN lC lT :=
  h.other (fun p z hp => hb.block z (h.base p z hp).2) hb.size

/-- The office lent a window. -/
theorem GrowAt.leased {B : Nat} {W W' : World} {G : GB} {rs : List (Nat × Nat)} {s : Nat → Dk} {lD lN lC lT : List Value} (h : GrowAt B W G rs s lD lN lC lT) {node fr : Nat} (hL : Leased W W' G.b G.m G.g G.span rs node fr) :
    ∃ g cap, GrowAt B W' { G with g := g, cap := cap } (rs ++ [(node, fr + G.span)]) s lD lN lC lT := by
  obtain ⟨g', cap', hg, hO⟩ := hL.off
  refine ⟨g', cap', ?_⟩
  have hat : ∀ p, p ≠ .row → ({ G with g := g', cap := cap' } : GB).at p = G.at p := fun p hne => by cases p <;> first | rfl | exact absurd rfl hne
  have cn : ∀ p, p ≠ .row → G.at p ≠ some g' := fun p hne hp => by
    rcases hg with e | e
    · exact hne (h.apart p .row g' hp (by rw [e]; rfl))
    · have := (h.base p _ hp).2; omega
  have hn := h.but.on (W' := W') (R' := fun p => p = .office ∨ p = .map ∨ p = .row) (fun p z hp hne => hL.keep.block z (h.base p z hp).2 (fun hs => by
    rcases hs with e | e | e
    · exact hne (Or.inl (h.apart p .office z hp (by rw [e]; rfl)))
    · exact hne (Or.inr (Or.inl (h.apart p .map z hp (by rw [e]; rfl))))
    · exact hne (Or.inr (Or.inr (h.apart p .row z hp (by rw [e]; rfl))))))
  have out : ∀ {p : Part}, p ≠ .office → p ≠ .map → p ≠ .row → ¬ (none' p ∨ (p = .office ∨ p = .map ∨ p = .row)) := fun h1 h3 h4 h2 => h2.elim id (fun e => e.elim h1 (fun e => e.elim h3 h4))
  refine ⟨⟨fun _ => hn.x0 (out (by simp) (by simp) (by simp)), fun _ => hn.x1 (out (by simp) (by simp) (by simp)), fun _ => hn.x2 (out (by simp) (by simp) (by simp)), fun _ => hn.x3 (out (by simp) (by simp) (by simp)), fun _ => hn.x4 (out (by simp) (by simp) (by simp)), fun _ => hn.x5 (out (by simp) (by simp) (by simp)), fun _ => hn.xz (out (by simp) (by simp) (by simp)),
    fun _ => hn.rD (out (by simp) (by simp) (by simp)), fun _ => hn.rN (out (by simp) (by simp) (by simp)), fun _ => hn.rC (out (by simp) (by simp) (by simp)), fun _ => hn.rT (out (by simp) (by simp) (by simp)),
    fun i hi _ => hn.dsk i hi (out (by simp) (by simp) (by simp)), fun _ _ _ => hO⟩, fun p q z hp hq => ?_, fun p z hp => ?_⟩
  · by_cases e1 : p = .row
    · by_cases e2 : q = .row
      · rw [e1, e2]
      · rw [e1] at hp; rw [hat q e2] at hq
        have hp' : some g' = some z := hp
        rw [← hp'] at hq
        exact absurd hq (cn q e2)
    · by_cases e2 : q = .row
      · rw [e2] at hq; rw [hat p e1] at hp
        have hq' : some g' = some z := hq
        rw [← hq'] at hp
        exact absurd hp (cn p e1)
      · rw [hat p e1] at hp; rw [hat q e2] at hq
        exact h.apart p q z hp hq
  · have hs := hL.keep.size
    by_cases e1 : p = .row
    · rw [e1] at hp
      have hp' : some g' = some z := hp
      cases hp'
      refine ⟨?_, hO.lt.2.2⟩
      rcases hg with e | e
      · rw [e]; exact (h.base .row G.g rfl).1
      · have := (h.base .own G.X rfl); omega
    · rw [hat p e1] at hp
      have := h.base p z hp
      exact ⟨this.1, Nat.lt_of_lt_of_le this.2 hs⟩

/-- A desk more. -/
theorem GrowAt.desked {B : Nat} {W W' : World} {G : GB} {rs : List (Nat × Nat)} {s : Nat → Dk} {lD lN lC lT : List Value} (h : GrowAt B W G rs s lD lN lC lT) (hb : Below W.heap.size W W') {k : Nat} (hk : W.heap.size ≤ k) {x : Dk} (hd : DeskAt W' k none x) :
    GrowAt B W' { G with dk := upd G.dk G.n k, n := G.n + 1 } rs (upd s G.n x) lD lN lC lT := by
  have h1 := h.below hb
  have hkl : k < W'.heap.size := by obtain ⟨_, made, _, hcl, _⟩ := hd; exact block_lt_of_cell hcl.c0
  have hat : ∀ p, p ≠ .desk G.n → ({ G with dk := upd G.dk G.n k, n := G.n + 1 } : GB).at p = G.at p := fun p hne => by
    cases p with
    | desk i =>
      have hi : i ≠ G.n := fun e => hne (by rw [e])
      show (if i < G.n + 1 then some (upd G.dk G.n k i) else none) = (if i < G.n then some (G.dk i) else none)
      rw [upd_other _ _ _ hi]
      by_cases hl : i < G.n
      · rw [if_pos hl, if_pos (by omega)]
      · rw [if_neg hl, if_neg (by omega)]
    | _ => rfl
  have hdn : ({ G with dk := upd G.dk G.n k, n := G.n + 1 } : GB).at (.desk G.n) = some k := by
    show (if G.n < G.n + 1 then some (upd G.dk G.n k G.n) else none) = _
    rw [if_pos (Nat.lt_succ_self _), upd_same]
  have cn : ∀ p, G.at p ≠ some k := fun p hp => by have := (h.base p k hp).2; omega
  refine ⟨⟨h1.but.x0, h1.but.x1, h1.but.x2, h1.but.x3, h1.but.x4, h1.but.x5, h1.but.xz, h1.but.rD, h1.but.rN, h1.but.rC, h1.but.rT, fun i hi hn => ?_, h1.but.off⟩, fun p q z hp hq => ?_, fun p z hp => ?_⟩
  · show DeskAt W' (upd G.dk G.n k i) none (upd s G.n x i)
    by_cases hi' : i = G.n
    · subst hi'; rw [upd_same, upd_same]; exact hd
    · rw [upd_other _ _ _ hi', upd_other _ _ _ hi']
      exact h1.but.dsk i (by have : i < G.n + 1 := hi; omega) hn
  · by_cases e1 : p = .desk G.n
    · by_cases e2 : q = .desk G.n
      · rw [e1, e2]
      · rw [e1, hdn] at hp; rw [hat q e2] at hq
        cases hp
        exact absurd hq (cn q)
    · by_cases e2 : q = .desk G.n
      · rw [e2, hdn] at hq; rw [hat p e1] at hp
        cases hq
        exact absurd hp (cn p)
      · rw [hat p e1] at hp; rw [hat q e2] at hq
        exact h.apart p q z hp hq
  · by_cases e1 : p = .desk G.n
    · rw [e1, hdn] at hp
      cases hp
      have := (h.base .own G.X rfl)
      omega
    · rw [hat p e1] at hp
      exact h1.base p z hp
end Go.Proofs.Ytdplffhieekfaaa
