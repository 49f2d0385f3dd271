/-
  What a desk answers, and the document's: one answer each, whatever was asked; the law's world between two steps.
-/
import Derived.Test.YtdplffhieekfaaaDoorLawMore
namespace Go.Proofs.YtdplffhieekfaaaDoor
open Go.RowKit

def nextNum (s : Dk) (now : Int) : Int := if errOf s now = 0 then numOf (timeOf s now) s.node (seqOf s (timeOf s now)) else 0
def nextDk (s : Dk) (now : Int) : Dk := if errOf s now = 0 then s.step now else s
def bLen (s : Dk) (now cnt : Int) : Nat := if 1 ≤ cnt ∧ cnt ≤ 10000 ∧ timeAt s now (cnt.toNat - 1) < lidOf s now then cnt.toNat else 0
def bErr (s : Dk) (now cnt : Int) : Int := if cnt < 1 ∨ 10000 < cnt then 9 else batchErr s now cnt.toNat

theorem bLen_le (s : Dk) (now cnt : Int) : bLen s now cnt ≤ 10000 := by unfold bLen; split <;> omega

theorem step_fresh {s : Dk} (ok : s.Ok) (now : Int) : (s.step now).Fresh := by
  intro h
  have := (seqOf_lt ok now).1
  have h' : seqOf s (timeOf s now) + 1 = 0 := h
  omega

theorem nextDk_fresh {s : Dk} (ok : s.Ok) (hf : s.Fresh) (now : Int) : (nextDk s now).Fresh := by
  unfold nextDk
  split
  · exact step_fresh ok now
  · exact hf

theorem nextDk_given (s : Dk) (now : Int) : s.given ≤ (nextDk s now).given ∧ (nextDk s now).given ≤ s.given + 1 := by
  unfold nextDk
  split
  · show s.given ≤ s.given + 1 ∧ s.given + 1 ≤ s.given + 1
    omega
  · omega

theorem DeskAt.next_any {w : World} {b : Nat} {c : Option Nat} {s : Dk} (hd : DeskAt w b c s) (now : Int) (hn : -9223372036854775808 ≤ now) (g0 : 0 ≤ s.given) (g1 : s.given < 9223372036854775807) :
    Calls Tryd.prog 17 #[.pointer (some ⟨b, 0, none⟩), .int .i64 now] w fun e w' => e = .returned (.tuple #[.int .u64 (nextNum s now), .int .i64 (errOf s now)]) ∧
      ∃ c', (c' = c ∨ ∃ k, w.heap.size ≤ k ∧ c' = some k) ∧ DeskAt w' b c' (nextDk s now) ∧ Keep (fun i => i = b ∨ c = some i) w w' := by
  unfold nextNum nextDk
  by_cases he : errOf s now = 0
  · rw [if_pos he, if_pos he, he]
    exact hd.next_yes now hn he g0 g1
  · rw [if_neg he, if_neg he]
    refine (hd.next_no now hn he).mono ?_
    rintro e w' ⟨rfl, n, rfl⟩
    exact ⟨rfl, c, Or.inl rfl, hd.drewN n, (Keep.refl _ w).drewN n⟩

theorem RefAt.next_any {w : World} {b : Nat} {s : Dk} (h : RefAt w b s) (ok : s.Ok) (hf : s.Fresh) (now : Int) (n0 : -9223372036854775808 ≤ now) (n1 : now ≤ 9223372036854775807) (g0 : 0 ≤ s.given) (g1 : s.given < 9223372036854775807) :
    Calls Tryd.prog 47 #[.pointer (some ⟨b, 0, none⟩), .int .i64 now] w fun e w' => e = .returned (.tuple #[.int .u64 (nextNum s now), .int .i64 (errOf s now)]) ∧ RefAt w' b (nextDk s now) ∧ Keep (fun i => i = b) w w' := by
  unfold nextNum nextDk
  by_cases he : errOf s now = 0
  · rw [if_pos he, if_pos he, he]
    exact h.next_yes ok hf now n0 n1 he g0 g1
  · rw [if_neg he, if_neg he]
    refine (h.next_no ok hf now n0 n1 he).mono ?_
    rintro e w' ⟨rfl, rfl⟩
    exact ⟨rfl, h, Keep.refl _ _⟩

theorem runG_zero (s : Dk) (now : Int) : s.runG now 0 = s := by
  cases s
  simp [Dk.runG, Dk.run]

theorem owns_nil (w : World) (base : Nat) (e : TypeId) (size : Nat) : w.ownsRow base e size (.slice none 0 0) 0 [] := ⟨by simp, Or.inl ⟨rfl, rfl⟩⟩

theorem DeskAt.batch_all {w : World} {b : Nat} {c : Option Nat} {s : Dk} (hd : DeskAt w b c s) (now cnt : Int) (hn : -9223372036854775808 ≤ now) (g0 : 0 ≤ s.given) (g1 : s.given + 10000 ≤ 9223372036854775807) :
    Calls Tryd.prog 48 #[.pointer (some ⟨b, 0, none⟩), .int .i64 now, .int .i64 cnt] w fun e w' => ∃ l, e = .returned (.tuple #[l, .int .i64 (bErr s now cnt)]) ∧ w'.ownsRow w.heap.size 25 1 l (bLen s now cnt) (numCells s now (bLen s now cnt)) ∧
      (∃ c', (c' = c ∨ ∃ j, w.heap.size ≤ j ∧ c' = some j) ∧ DeskAt w' b c' (s.runG now (bLen s now cnt))) ∧ Keep (fun x => x = b ∨ c = some x) w w' := by
  by_cases hc : cnt < 1 ∨ 10000 < cnt
  · rw [show bErr s now cnt = 9 from if_pos hc, show bLen s now cnt = 0 from if_neg (by omega), runG_zero]
    refine (batch_count b now cnt w hc).mono ?_
    rintro e w' ⟨rfl, rfl⟩
    exact ⟨_, rfl, owns_nil _ _ _ _, ⟨c, Or.inl rfl, hd⟩, Keep.refl _ _⟩
  · obtain ⟨n, rfl⟩ : ∃ n : Nat, cnt = n := ⟨cnt.toNat, by omega⟩
    rw [show bErr s now n = batchErr s now n from if_neg hc]
    by_cases hl : timeAt s now (n - 1) < lidOf s now
    · rw [show bLen s now n = n from if_pos ⟨by omega, by omega, hl⟩, show batchErr s now n = 0 by unfold batchErr; rw [if_pos hl]]
      refine (hd.batch_row now n hn (by omega) (by omega) hl g0 (by omega)).mono ?_
      rintro e w' ⟨k, rfl, h1, h2, h3⟩
      exact ⟨_, rfl, h1, h2, h3⟩
    · rw [show bLen s now n = 0 from if_neg (fun e => hl e.2.2), runG_zero]
      refine (hd.batch_no now n hn (by omega) (by omega) (batchErr_ne hl)).mono ?_
      rintro e w' ⟨rfl, m, rfl⟩
      exact ⟨_, rfl, owns_nil _ _ _ _, ⟨c, Or.inl rfl, hd.drewN m⟩, (Keep.refl _ w).drewN m⟩

theorem RefAt.batch_all {w : World} {b : Nat} {s : Dk} (h : RefAt w b s) (ok : s.Ok) (hf : s.Fresh) (now cnt : Int) (n0 : -9223372036854775808 ≤ now) (n1 : now ≤ 9223372036854775807) (g0 : 0 ≤ s.given) (g1 : s.given + 10000 ≤ 9223372036854775807) :
    Calls Tryd.prog 49 #[.pointer (some ⟨b, 0, none⟩), .int .i64 now, .int .i64 cnt] w fun e w' => ∃ l, e = .returned (.tuple #[l, .int .i64 (bErr s now cnt)]) ∧ w'.ownsRow (w.heap.size + 1) 25 1 l (bLen s now cnt) (numCells s now (bLen s now cnt)) ∧
      RefAt w' b (s.runG now (bLen s now cnt)) ∧ Keep (fun i => i = b) w w' := by
  by_cases hc : cnt < 1 ∨ 10000 < cnt
  · rw [show bErr s now cnt = 9 from if_pos hc, show bLen s now cnt = 0 from if_neg (by omega), runG_zero]
    refine (rbatch_count b now cnt w hc).mono ?_
    rintro e w' ⟨rfl, rfl⟩
    exact ⟨_, rfl, owns_nil _ _ _ _, h, Keep.refl _ _⟩
  · obtain ⟨n, rfl⟩ : ∃ n : Nat, cnt = n := ⟨cnt.toNat, by omega⟩
    rw [show bErr s now n = batchErr s now n from if_neg hc]
    refine (h.batch_any ok hf now n n0 n1 (by omega) (by omega) g0 (by omega)).mono ?_
    by_cases hl : timeAt s now (n - 1) < lidOf s now
    · have h0 : batchErr s now n = 0 := by unfold batchErr; rw [if_pos hl]
      rw [show bLen s now n = n from if_pos ⟨by omega, by omega, hl⟩, h0]
      rintro e w' (⟨hx, _⟩ | ⟨_, l, rfl, h1, h2, h3⟩)
      · exact absurd rfl hx
      · exact ⟨l, rfl, h1, h2, h3⟩
    · rw [show bLen s now n = 0 from if_neg (fun e => hl e.2.2), runG_zero]
      rintro e w' (⟨_, rfl, hb⟩ | ⟨hx, _⟩)
      · exact ⟨_, rfl, owns_nil _ _ _ _, h.below hb, Keep.of_below hb⟩
      · exact absurd hx hl

/-- The law's world behind so many steps. -/
structure LawIn (t : Nat) (W : World) (L : LB) (s : Nat → Dk) (Ls Ms : List Value) (c : Int) : Prop where
  dw : DW W L s Ls Ms c
  given : ∀ k, k < L.n → 0 ≤ (s k).given ∧ (s k).given ≤ 10000 * (t : Int)
  len : Ls.length ≤ 4 * t
  c0 : 0 ≤ c
  c1 : c ≤ t

def Stepped (t : Nat) (W W' : World) (L : LB) : Prop := ∃ L' s' Ls' Ms' c', LawIn (t + 1) W' L' s' Ls' Ms' c' ∧ Went W W' L L'

theorem LawIn.below {t : Nat} {W W' : World} {L : LB} {s : Nat → Dk} {Ls Ms : List Value} {c : Int} (h : LawIn t W L s Ls Ms c) (hb : Below W.heap.size W W') : LawIn t W' L s Ls Ms c ∧ Went W W' L L :=
  ⟨{ h with dw := (h.dw.below hb).1 }, (h.dw.below hb).2⟩

theorem LawIn.later {t : Nat} {W : World} {L : LB} {s : Nat → Dk} {Ls Ms : List Value} {c : Int} (h : LawIn t W L s Ls Ms c) : LawIn (t + 1) W L s Ls Ms c :=
  { h with given := fun k hk => by have := h.given k hk; omega, len := by have := h.len; omega, c1 := by have := h.c1; omega }

theorem LawIn.idle {t : Nat} {W W' : World} {L : LB} {s : Nat → Dk} {Ls Ms : List Value} {c : Int} (h : LawIn t W L s Ls Ms c) (hb : Below W.heap.size W W') : Stepped t W W' L :=
  ⟨L, s, Ls, Ms, c, (h.below hb).1.later, (h.below hb).2⟩

theorem LawIn.desked {t : Nat} {W W1 W2 : World} {L : LB} {s : Nat → Dk} {Ls Ms : List Value} {c : Int} (h : LawIn t W L s Ls Ms c) {k : Nat} (hk : k < L.n) {c' : Option Nat} {s' : Dk} (hc : c' = L.ch k ∨ ∃ j, W.heap.size ≤ j ∧ c' = some j) (hd : DeskAt W1 (L.dk k) c' s')
    (k1 : Keep (fun i => i = L.dk k ∨ L.ch k = some i) W W1) (hr : RefAt W2 (L.rf k) s') (k2 : Keep (fun i => i = L.rf k) W1 W2) (hf : s'.Fresh) (g0 : (s k).given ≤ s'.given) (g1 : s'.given ≤ (s k).given + 10000) :
    LawIn (t + 1) W2 { L with ch := put L.ch k c' } (put s k s') Ls Ms c ∧ Went W W2 L { L with ch := put L.ch k c' } := by
  obtain ⟨a, b⟩ := h.dw.desked hk hc hd k1 hr k2 hf
  refine ⟨⟨a, fun i hi => ?_, by have := h.len; omega, h.c0, by have := h.c1; omega⟩, b⟩
  have hi' : i < L.n := hi
  by_cases e : i = k
  · subst e; rw [put_same]; have := h.given i hi'; omega
  · rw [put_other _ _ _ e]; have := h.given i hi'; omega

/-- Four lists more: what became of all else, seen from a world in which the list was not yet. -/
theorem Went.listed {W0 W W' : World} {L0 L : LB} (h0 : Went W0 W L0 L) {l : Value} (hl : ∀ g, l.ownBlock = some g → W0.heap.size ≤ g)
    {x c1 : Int} {lv' mv' lc : Value} {m : Nat} {Lr Mr N4 : List Value} (hK : KS W L.B L.lv L.mv l x c1 W' lv' mv' lc Lr Mr m N4) :
    Went W0 W' L0 { L with lv := lv', mv := mv', lb := fun b => L.lb b ∨ InList W L.B l lv' mv' W' b } := by
  have hs := h0.keep.size
  refine ⟨h0.keep.trans' hK.keep (fun i hi e => ?_), h0.B, fun p y hp => ?_, fun y hy => ?_, ?_⟩
  · have key : ∀ p, L.at p = some i → ∃ q, L0.at q = some i := fun p hp => by
      rcases h0.newAt p i hp with e | e
      · exact e
      · omega
    rcases e with e | e | e | e
    · exact key .own (by rw [e]; rfl)
    · exact key .lists e
    · exact key .marks e
    · have := hl i e; omega
  · cases p with
    | lists =>
      rcases hK.ol y hp with e | e
      · exact h0.newAt .lists y e
      · right; omega
    | marks =>
      rcases hK.om y hp with e | e
      · exact h0.newAt .marks y e
      · right; omega
    | own => exact h0.newAt .own y hp
    | desks => exact h0.newAt .desks y hp
    | desk k => exact h0.newAt (.desk k) y hp
    | chan k => exact h0.newAt (.chan k) y hp
    | ref k => exact h0.newAt (.ref k) y hp
  · rcases hy with e | e
    · exact h0.newLb y e
    · rcases e.old with e | e
      · exact Or.inr (hl y e)
      · right; omega
  · have e1 := hK.cB 1 (by omega)
    rw [h0.B] at e1
    exact e1.trans h0.c1
end Go.Proofs.YtdplffhieekfaaaDoor
