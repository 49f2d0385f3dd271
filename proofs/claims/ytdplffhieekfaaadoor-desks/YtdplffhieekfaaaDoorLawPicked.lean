/-
  stampslaw: which desk a step speaks of, in memory.
-/
import Derived.Test.YtdplffhieekfaaaDoorLawLook
namespace Go.Proofs.YtdplffhieekfaaaDoor
open Go.RowKit

theorem pickI_range (c n : Int) (hn : 0 < n) : 0 ≤ pickI c n ∧ pickI c n < n := by
  unfold pickI
  split
  · exact ⟨Int.emod_nonneg _ (by omega), Int.emod_lt_of_pos _ hn⟩
  · exact ⟨Int.emod_nonneg _ (by omega), Int.emod_lt_of_pos _ hn⟩

structure PickedAt (W : World) (L : LB) (g cap k : Nat) : Prop where
  lt : k < L.n
  n12 : L.n ≤ 12
  x0 : W.cell? ⟨L.B, 0, none⟩ = some (.slice (some ⟨g, 0, none⟩) L.n cap)
  d : W.cell? ⟨g, k * 2, none⟩ = some (.pointer (some ⟨L.dk k, 0, none⟩))
  r : W.cell? ⟨g, k * 2 + 1, none⟩ = some (.pointer (some ⟨L.rf k, 0, none⟩))

theorem LawIn.picked {t : Nat} {W : World} {L : LB} {s : Nat → Dk} {Ls Ms : List Value} {c : Int} (h : LawIn t W L s Ls Ms c) (hn : 0 < L.n) (on : Int) (h0 : -9223372036854775808 ≤ on) (h1 : on ≤ 9223372036854775807) :
    ∃ g cap k, PickedAt W L g cap k ∧ ∀ w, Calls Tryd.prog 46 #[.int .i64 on, .int .i64 L.n] w fun e w' => e = .returned (.int .i64 (k : Nat)) ∧ w' = w := by
  have rD := h.dw.but.rD id
  obtain ⟨g, cap, e⟩ := owns_some rD hn
  obtain ⟨p0, p1⟩ := pickI_range on L.n (by omega)
  obtain ⟨k, hk⟩ : ∃ k : Nat, pickI on L.n = k := ⟨(pickI on L.n).toNat, by omega⟩
  have hkn : k < L.n := by omega
  obtain ⟨q0, q1⟩ := pairCells_get L.dk L.rf L.n k hkn
  have c0 := rD.cells (g := g) (by rw [e]; rfl) _ _ q0
  have c1 := rD.cells (g := g) (by rw [e]; rfl) _ _ q1
  rw [addr_add0] at c0 c1
  refine ⟨g, cap, k, ⟨hkn, h.dw.n12, by rw [h.dw.but.x0 id, e], c0, c1⟩, fun w => ?_⟩
  have := lpick_any on L.n w h0 h1 (by omega)
  rw [hk] at this
  exact this

/-- The desk that was picked, laid beside. -/
structure XAt (V W : World) (L : LB) (k X : Nat) : Prop where
  bel : Below V.heap.size V W
  le : V.heap.size ≤ X
  d : W.cell? ⟨X, 0, none⟩ = some (.pointer (some ⟨L.dk k, 0, none⟩))
  r : W.cell? ⟨X, 1, none⟩ = some (.pointer (some ⟨L.rf k, 0, none⟩))

theorem xat_of (V : World) (L : LB) (k X : Nat) (T : TypeId) (hX : V.heap.size = X) : XAt V ((V.alloc (.cells #[.pointer (some ⟨L.dk k, 0, none⟩), .pointer (some ⟨L.rf k, 0, none⟩)] T)).drew) L k X := by
  subst hX
  have e := cell_alloc_new V #[.pointer (some ⟨L.dk k, 0, none⟩), .pointer (some ⟨L.rf k, 0, none⟩)] T
  exact ⟨((Below.refl _ V).alloc (Nat.le_refl _) _).drew, Nat.le_refl _, (e 0).1, (e 1).1⟩

/-- The document's desk stays while its desk is asked. -/
theorem DW.refKeep {W W1 : World} {L : LB} {s : Nat → Dk} {Ls Ms : List Value} {c : Int} (h : DW W L s Ls Ms c) {k : Nat} (hk : k < L.n) (k1 : Keep (fun i => i = L.dk k ∨ L.ch k = some i) W W1) : RefAt W1 (L.rf k) (s k) := by
  have aD : L.at (.desk k) = some (L.dk k) := if_pos hk
  have aR : L.at (.ref k) = some (L.rf k) := if_pos hk
  refine (h.but.ref k hk id).keep k1 (fun e => ?_)
  rcases e with e | e
  · have := h.apart (.ref k) (.desk k) _ aR (e ▸ aD)
    cases this
  · have := h.apart (.ref k) (.chan k) _ aR ((if_pos hk).trans e)
    cases this

theorem DW.deskLt {W : World} {L : LB} {s : Nat → Dk} {Ls Ms : List Value} {c : Int} (h : DW W L s Ls Ms c) {k : Nat} (hk : k < L.n) : ∀ i, (i = L.dk k ∨ L.ch k = some i) → i < W.heap.size := fun i e => by
  rcases e with e | e
  · rw [e]; exact (h.base (.desk k) _ (if_pos hk)).2
  · exact (h.base (.chan k) _ ((if_pos hk).trans e)).2

theorem keep_new {S : Nat → Prop} {W0 w w1 : World} (hk : Keep S w w1) (hS : ∀ i, S i → i < W0.heap.size) {b : Nat} (o : Nat) {v : Value} (hb : W0.heap.size ≤ b) (hc : w.cell? ⟨b, o, none⟩ = some v) : w1.cell? ⟨b, o, none⟩ = some v :=
  (hk.cell (p := ⟨b, o, none⟩) (block_lt_of_cell hc) (fun e => by have := hS b e; omega)).trans hc

/-- A step's own copy of what was asked. -/
structure OpBox (W : World) (B : Nat) (a b l0 l1 l2 : Int) : Prop where
  c2 : W.cell? ⟨B, 2, none⟩ = some (.int .i64 a)
  c3 : W.cell? ⟨B, 3, none⟩ = some (.int .i64 b)
  c6 : W.cell? ⟨B, 6, none⟩ = some (.int .i64 l0)
  c7 : W.cell? ⟨B, 7, none⟩ = some (.int .i64 l1)
  c8 : W.cell? ⟨B, 8, none⟩ = some (.int .i64 l2)

theorem OpBox.keep {S : Nat → Prop} {W0 w w1 : World} {B : Nat} {a b l0 l1 l2 : Int} (h : OpBox w B a b l0 l1 l2) (hk : Keep S w w1) (hS : ∀ i, S i → i < W0.heap.size) (hb : W0.heap.size ≤ B) : OpBox w1 B a b l0 l1 l2 :=
  ⟨keep_new hk hS 2 hb h.c2, keep_new hk hS 3 hb h.c3, keep_new hk hS 6 hb h.c6, keep_new hk hS 7 hb h.c7, keep_new hk hS 8 hb h.c8⟩

/-- What is at hand when a desk was picked. -/
structure Picked (t : Nat) (W V : World) (L : LB) (sd : Nat → Dk) (Ls Ms : List Value) (c : Int) (k X : Nat) (kd a b l0 l1 l2 : Int) : Prop where
  law : LawIn t V L sd Ls Ms c
  went : Went W V L L
  lt : k < L.n
  le : W.heap.size ≤ V.heap.size
  X0 : W.heap.size ≤ X
  d : V.cell? ⟨X, 0, none⟩ = some (.pointer (some ⟨L.dk k, 0, none⟩))
  r : V.cell? ⟨X, 1, none⟩ = some (.pointer (some ⟨L.rf k, 0, none⟩))
  k0 : V.cell? ⟨W.heap.size, 0, none⟩ = some (.int .i64 kd)
  op : OpBox V W.heap.size a b l0 l1 l2
  deskLt : ∀ i, (i = L.dk k ∨ L.ch k = some i) → i < W.heap.size
  refLt : ∀ i, i = L.rf k → i < W.heap.size

theorem LawIn.atPick {t : Nat} {W V : World} {L : LB} {sd : Nat → Dk} {Ls Ms : List Value} {c : Int} (h : LawIn t W L sd Ls Ms c) {k X : Nat} (hk : k < L.n) {kd on a b n : Int} {s : ByteArray} {l0 l1 l2 : Int}
    (hX : XAt (W.alloc (.cells #[.int .i64 kd, .int .i64 on, .int .i64 a, .int .i64 b, .int .u64 n, .string s, .int .i64 l0, .int .i64 l1, .int .i64 l2] 46)) V L k X) : Picked t W V L sd Ls Ms c k X kd a b l0 l1 l2 := by
  have hb : Below W.heap.size W V := ((Below.refl _ W).alloc (Nat.le_refl _) _).trans (hX.bel.mono (by simp))
  have e := fun o => (cell_alloc_new W #[.int .i64 kd, .int .i64 on, .int .i64 a, .int .i64 b, .int .u64 n, .string s, .int .i64 l0, .int .i64 l1, .int .i64 l2] 46 o).1
  have hX0 := hX.le
  rw [World.size_alloc] at hX0
  have kc : ∀ o v, (W.alloc (.cells #[.int .i64 kd, .int .i64 on, .int .i64 a, .int .i64 b, .int .u64 n, .string s, .int .i64 l0, .int .i64 l1, .int .i64 l2] 46)).cell? ⟨W.heap.size, o, none⟩ = some v → V.cell? ⟨W.heap.size, o, none⟩ = some v := fun o v hv => kept_cell hX.bel (by simp) hv
  exact ⟨(h.below hb).1, (h.below hb).2, hk, hb.size, by omega, hX.d, hX.r, kc 0 _ (e 0), ⟨kc 2 _ (e 2), kc 3 _ (e 3), kc 6 _ (e 6), kc 7 _ (e 7), kc 8 _ (e 8)⟩, h.dw.deskLt hk, fun i hi => by rw [hi]; exact (h.dw.base (.ref k) _ (if_pos hk)).2⟩

theorem DW.rows {W : World} {L : LB} {s : Nat → Dk} {Ls Ms : List Value} {c : Int} (h : DW W L s Ls Ms c) : RowsAt W L.B L.lv L.mv Ls.length Ls Ms c := by
  have rM := h.but.rM id
  rw [h.but.rds.len] at rM
  refine ⟨h.but.x2 id, h.but.x3 id, h.but.x4 id, h.but.xz id, h.but.rL id, rM, fun g h1 h2 => ?_⟩
  have := h.apart .lists .marks g h1 h2
  cases this

theorem owns_base {w : World} {base base' : Nat} {e : TypeId} {size : Nat} {v : Value} {n : Nat} {xs : List Value} (h : w.ownsRow base e size v n xs) (hb : base' ≤ base) : w.ownsRow base' e size v n xs := by
  refine ⟨h.1, ?_⟩
  rcases h.2 with hn | ⟨g, cap, cur, rfl, h1, h2⟩
  · exact Or.inl hn
  · exact Or.inr ⟨g, cap, cur, rfl, Nat.le_trans hb h1, h2⟩

/-- The list that a desk gave lies in no part of the law's. -/
theorem LawIn.apartList {t : Nat} {V w1 : World} {L : LB} {sd : Nat → Dk} {Ls Ms : List Value} {c : Int} (hJ : LawIn t V L sd Ls Ms c) {k : Nat} (hk : k < L.n) {c' : Option Nat} {s' : Dk} (hc : c' = L.ch k ∨ ∃ j, V.heap.size ≤ j ∧ c' = some j) (hd : DeskAt w1 (L.dk k) c' s')
    {l : Value} {n : Nat} {xs : List Value} (hl : w1.ownsRow V.heap.size 25 1 l n xs) : ∀ g, l.ownBlock = some g → V.heap.size ≤ g ∧ L.B < g ∧ (∀ p, ({ L with ch := put L.ch k c' } : LB).at p ≠ some g) ∧ ¬ L.lb g := by
  intro g hg
  have hge := (owns_in hl g hg).1
  have hB : L.B < V.heap.size := (hJ.dw.base .own _ rfl).2
  refine ⟨hge, by omega, fun p hp => ?_, fun e => by have := (hJ.dw.lists g e).2.1; omega⟩
  have old : ∀ p, L.at p = some g → False := fun p hp => by have := (hJ.dw.base p g hp).2; omega
  cases p with
  | chan i =>
    have hp' : (if i < L.n then put L.ch k c' i else none) = some g := hp
    by_cases hi : i < L.n
    · rw [if_pos hi] at hp'
      by_cases e : i = k
      · subst e
        rw [put_same] at hp'
        subst hp'
        obtain ⟨_, made, _, _, buf, sn, rc, hch, _⟩ := hd
        rcases hl.2 with ⟨rfl, _⟩ | ⟨g', cap, cur, rfl, _, h2, _⟩
        · cases hg
        · obtain rfl : g' = g := by simpa [Value.ownBlock] using hg
          rw [hch] at h2
          cases h2
      · rw [put_other _ _ _ e] at hp'
        exact old (.chan i) ((if_pos hi).trans hp')
    · rw [if_neg hi] at hp'; cases hp'
  | own => exact old .own hp
  | desks => exact old .desks hp
  | lists => exact old .lists hp
  | marks => exact old .marks hp
  | desk i => exact old (.desk i) hp
  | ref i => exact old (.ref i) hp

/-- Batch's step, as a whole. -/
theorem listed_fin {t : Nat} {W V w1 w2 w3 w4 : World} {L : LB} {sd : Nat → Dk} {Ls Ms : List Value} {c : Int} (hJ : LawIn t V L sd Ls Ms c) (hW : Went W V L L) {k : Nat} (hk : k < L.n) {c' : Option Nat} {s' : Dk} (hc : c' = L.ch k ∨ ∃ j, V.heap.size ≤ j ∧ c' = some j) (hd : DeskAt w1 (L.dk k) c' s')
    (k1 : Keep (fun i => i = L.dk k ∨ L.ch k = some i) V w1) (hr : RefAt w2 (L.rf k) s') (k2 : Keep (fun i => i = L.rf k) w1 w2) (hf : s'.Fresh) (g0 : (sd k).given ≤ s'.given) (g1 : s'.given ≤ (sd k).given + 10000)
    {l : Value} {n : Nat} {xs : List Value} (hl : w1.ownsRow V.heap.size 25 1 l n xs) (hb : Below w2.heap.size w2 w3) (hn : n ≤ 10000) {x : Int} {lv' mv' lc : Value} {N4 : List Value} (hN : N4.length = 4)
    (hK : KS w3 L.B L.lv L.mv l x (c + 1) w4 lv' mv' lc (Ls ++ N4) (Ms ++ List.replicate 4 (.int .u64 x)) (n + 4) N4) : Stepped t W w4 L := by
  have ha := hJ.apartList hk hc hd hl
  obtain ⟨h2, went2⟩ := hJ.desked hk hc hd k1 hr k2 hf g0 g1
  obtain ⟨h3, went3⟩ := h2.below hb
  generalize hL1 : ({ L with ch := put L.ch k c' } : LB) = L1 at *
  have eB : L1.B = L.B := by rw [← hL1]
  have elv : L1.lv = L.lv := by rw [← hL1]
  have emv : L1.mv = L.mv := by rw [← hL1]
  have elb : L1.lb = L.lb := by rw [← hL1]
  rw [← eB, ← elv, ← emv] at hK
  have wentA := (hW.trans went2).trans went3
  have szW := hW.keep.size
  refine ⟨_, _, _, _, _, ⟨h3.dw.listed (fun g hg => ⟨by rw [eB]; exact (ha g hg).2.1, (ha g hg).2.2.1, by rw [elb]; exact (ha g hg).2.2.2⟩) hN (by omega) hK, h3.given, ?_, by have := hJ.c0; omega, by have := hJ.c1; omega⟩, wentA.listed (fun g hg => by have := (ha g hg).1; omega) hK⟩
  rw [List.length_append, hN]
  have := hJ.len
  omega
end Go.Proofs.YtdplffhieekfaaaDoor
