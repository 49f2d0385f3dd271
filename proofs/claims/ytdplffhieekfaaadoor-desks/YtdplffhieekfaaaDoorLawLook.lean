/-
  stampslaw's look at the lists that came out, in its own world; the world at the start; between two steps of a script.
-/
import Derived.Test.YtdplffhieekfaaaDoorAsked
namespace Go.Proofs.YtdplffhieekfaaaDoor
open Go.RowKit

set_option maxRecDepth 100000 in
set_option maxHeartbeats 2000000 in
theorem still_zero (B : Nat) (a : Option Addr) (cp : Nat) (w : World) (hl : w.cell? ⟨B, 2, none⟩ = some (.slice a 0 cp)) :
    Calls Tryd.prog 15 #[.pointer (some ⟨B, 0, none⟩)] w fun e w' => e = .returned (.bool true) ∧ w' = w := by
  go_enter Tryd.func15, Tryd.ntmps15
  go_wp2
  go_loop [3] (fun i => i = .int .i64 0) (fun _ => 0)
  case atStart => rfl
  case round =>
    subst hrel
    go_wp2
    go_ret
    exact ⟨rfl, rfl⟩

theorem owns_some {w : World} {base : Nat} {e : TypeId} {size : Nat} {v : Value} {n : Nat} {xs : List Value} (h : w.ownsRow base e size v n xs) (hn : 0 < n) : ∃ g cap, v = .slice (some ⟨g, 0, none⟩) n cap := by
  rcases h.2 with ⟨_, h0⟩ | ⟨g, cap, _, he, _⟩
  · omega
  · exact ⟨g, cap, he⟩

theorem DW.still {W : World} {L : LB} {s : Nat → Dk} {Ls Ms : List Value} {c : Int} (h : DW W L s Ls Ms c) (hq : Ls.length ≤ 9000000000000) :
    Calls Tryd.prog 15 #[.pointer (some ⟨L.B, 0, none⟩)] W fun e W' => e = .returned (.bool true) ∧ ∃ n, W' = W.drewN n := by
  have rL := h.but.rL id
  have rM := h.but.rM id
  have hml := h.but.rds.len
  by_cases h0 : Ls.length = 0
  · obtain ⟨a, cp, e⟩ := owns_slice rL
    have hx := h.but.x2 id
    rw [e, h0] at hx
    refine (still_zero L.B a cp W hx).mono ?_
    rintro e w' ⟨rfl, rfl⟩
    exact ⟨rfl, 0, rfl⟩
  · obtain ⟨gl, capl, el⟩ := owns_some rL (by omega)
    obtain ⟨gm, capm, em⟩ := owns_some rM (by omega)
    obtain ⟨f, hf⟩ := Classical.axiomOfChoice (r := fun (j : Nat) (y : Option Addr × Nat × Nat × Int) => j < Ls.length → (Ls[j]? = some (.slice y.1 y.2.1 y.2.2.1) ∧ Ms[j]? = some (.int .u64 y.2.2.2) ∧ y.2.1 ≤ 100000 ∧ ∀ k, k < y.2.1 → ∃ b, y.1 = some ⟨b, 0, none⟩ ∧ L.lb b ∧ W.cell? ⟨b, k, none⟩ = some (.int .u64 y.2.2.2))) (fun j => by
      by_cases hj : j < Ls.length
      · obtain ⟨a, n, cp, m, h1⟩ := h.but.rds.read j hj
        exact ⟨(a, n, cp, m), fun _ => h1⟩
      · exact ⟨(none, 0, 0, 0), fun e => absurd e hj⟩)
    refine still_any (gl := gl) (gm := gm) (q := Ls.length) (capl := capl) (capm := capm) (A := fun j => (f j).1) (N := fun j => (f j).2.1) (C := fun j => (f j).2.2.1) (M := fun j => (f j).2.2.2) W ⟨?_, ?_, by omega, fun j hj => ?_, fun j hj k hk => ?_⟩
    · rw [h.but.x2 id, el]
    · rw [h.but.x3 id, em, hml]
    · obtain ⟨h1, h2, h3, _⟩ := hf j hj
      refine ⟨?_, ?_, h3⟩
      · have := rL.cells (g := gl) (by rw [el]; rfl) j _ h1
        rwa [addr_add0] at this
      · have := rM.cells (g := gm) (by rw [em]; rfl) j _ h2
        rwa [addr_add0] at this
    · obtain ⟨_, _, _, h4⟩ := hf j hj
      obtain ⟨b, e1, _, e2⟩ := h4 k hk
      exact ⟨b, e1, e2⟩

/-- The law's world at the start. -/
def LB.start (B : Nat) : LB := ⟨B, .slice none 0 0, .slice none 0 0, .slice none 0 0, fun _ => 0, fun _ => none, fun _ => 0, 0, fun _ => False⟩

theorem law_start (w : World) (T : TypeId) : LawIn 0 (w.alloc (.cells #[.slice none 0 0, .slice none 0 0, .slice none 0 0, .slice none 0 0, .int .u64 0] T)) (LB.start w.heap.size) (fun _ => newDk 0 0 1 0) [] [] 0 := by
  have hc := cell_alloc_new w #[.slice none 0 0, .slice none 0 0, .slice none 0 0, .slice none 0 0, .int .u64 0] T
  have hown : ∀ p x, (LB.start w.heap.size).at p = some x → p = .own ∧ x = w.heap.size := fun p x hp => by
    cases p with
    | own => exact ⟨rfl, (Option.some.inj hp).symm⟩
    | desks => cases hp
    | lists => cases hp
    | marks => cases hp
    | desk k => have : (if k < 0 then some 0 else none) = some x := hp; rw [if_neg (by omega)] at this; cases this
    | chan k => have : (if k < 0 then (none : Option Nat) else none) = some x := hp; rw [if_neg (by omega)] at this; cases this
    | ref k => have : (if k < 0 then some 0 else none) = some x := hp; rw [if_neg (by omega)] at this; cases this
  refine ⟨⟨⟨fun _ => (hc 0).1, fun _ => (hc 2).1, fun _ => (hc 3).1, fun _ => (hc 4).1, fun _ o => (hc o).2, fun _ => owns_nil _ _ _ _, fun _ => owns_nil _ _ _ _, fun _ => owns_nil _ _ _ _, fun k hk => ?_, fun k hk => ?_, rfl, fun j hj => ?_⟩, fun p q x hp hq => ?_, fun p x hp => ?_, fun b hb => hb.elim, fun k hk => ?_, Nat.zero_le _⟩, fun k hk => ?_, Nat.le_refl _, Int.le_refl _, Int.le_refl _⟩
  · exact absurd hk (Nat.not_lt_zero k)
  · exact absurd hk (Nat.not_lt_zero k)
  · exact absurd hj (Nat.not_lt_zero j)
  · rw [(hown p x hp).1, (hown q x hq).1]
  · rw [(hown p x hp).2]; exact ⟨Nat.le_refl _, by simp⟩
  · exact absurd hk (Nat.not_lt_zero k)
  · exact absurd hk (Nat.not_lt_zero k)

/-- Between two steps of a script. -/
def PlayAt (w W : World) (t : Nat) (L : LB) : Prop := (∃ s Ls Ms c, LawIn t W L s Ls Ms c) ∧ L.B = w.heap.size ∧ Below w.heap.size w W

theorem Went.below {W W' : World} {L L' : LB} (h : Went W W' L L') (hB : ∀ p x, L.at p = some x → L.B ≤ x) (hs : L.B ≤ W.heap.size) : Below L.B W W' :=
  h.keep.below hs (fun i hi ⟨p, hp⟩ => by have := hB p i hp; omega)

theorem PlayAt.step {w W W' : World} {t : Nat} {L : LB} (h : PlayAt w W t L) (hs : Stepped t W W' L) : ∃ L', PlayAt w W' (t + 1) L' := by
  obtain ⟨⟨s, Ls, Ms, c, hI⟩, hB, hb⟩ := h
  obtain ⟨L', s', Ls', Ms', c', hI', hw⟩ := hs
  have h1 := hw.below (fun p x hp => (hI.dw.base p x hp).1) (Nat.le_of_lt (hI.dw.base .own _ rfl).2)
  rw [hB] at h1
  exact ⟨L', ⟨s', Ls', Ms', c', hI'⟩, hw.B.trans hB, hb.trans h1⟩

theorem PlayAt.below {w W W' : World} {t : Nat} {L : LB} (h : PlayAt w W t L) (hb : Below W.heap.size W W') : PlayAt w W' t L := by
  obtain ⟨⟨s, Ls, Ms, c, hI⟩, hB, hb0⟩ := h
  exact ⟨⟨s, Ls, Ms, c, (hI.below hb).1⟩, hB, hb0.trans (hb.mono hb0.size)⟩
end Go.Proofs.YtdplffhieekfaaaDoor
