/-
  Plain numbers: a fleet: six desks of three nodes; why no number is given twice.
-/
import Derived.Test.YtdplffhieekfaaaRun
import Derived.Test.YtdplffhieekfaaaJour
import Derived.Test.YtdplffhieekfaaaRenewP
namespace Go.Proofs.Ytdplffhieekfaaa

/-- A desk of the fleet: its data, its clock, the number that it gave last. -/
structure Fd where
  s : Dk
  clk : Int
  last : Int

/-- Just behind the numbers that a desk has given of its time. -/
def Dk.top (s : Dk) : Int := s.time * 4194304 + s.node * 4096 + s.nxt

/-- At place k another one. -/
def upd {α : Type} (f : Nat → α) (k : Nat) (x : α) : Nat → α := fun i => if i = k then x else f i
theorem upd_same {α : Type} (f : Nat → α) (k : Nat) (x : α) : upd f k x k = x := if_pos rfl
theorem upd_other {α : Type} (f : Nat → α) (k : Nat) (x : α) {i : Nat} (h : i ≠ k) : upd f k x i = f i := if_neg h

theorem next_top {s : Dk} (ok : s.Ok) (now : Int) : s.top ≤ numOf (timeOf s now) s.node (seqOf s (timeOf s now)) ∧ (s.step now).top = numOf (timeOf s now) s.node (seqOf s (timeOf s now)) + 1 := by
  have h1 := timeOf_ge s now
  have h2 := seqOf_lt ok now
  have n0 := ok.n0
  have n1 := ok.n1
  have x1 := ok.x1
  constructor
  · unfold Dk.top numOf
    by_cases h : timeOf s now = s.time
    · have : seqOf s (timeOf s now) = s.nxt := by unfold seqOf; rw [if_pos h]
      rw [this, h]
      omega
    · omega
  · show timeOf s now * 4194304 + s.node * 4096 + (seqOf s (timeOf s now) + 1) = timeOf s now * 4194304 + s.node * 4096 + seqOf s (timeOf s now) + 1
    omega

theorem numAt_zero {s : Dk} (ok : s.Ok) (now : Int) : numOf (timeAt s now 0) s.node (seqAt s now 0) = numOf (timeOf s now) s.node (seqOf s (timeOf s now)) := by
  have h := run_at ok now 0
  rw [← h.1, ← h.2]
  rfl

theorem num_rise {s : Dk} (now : Int) (j : Nat) : numOf (timeAt s now j) s.node (seqAt s now j) < numOf (timeAt s now (j + 1)) s.node (seqAt s now (j + 1)) := by
  unfold numOf timeAt seqAt
  omega

theorem num_mono {s : Dk} (now : Int) (i j : Nat) (h : i < j) : numOf (timeAt s now i) s.node (seqAt s now i) < numOf (timeAt s now j) s.node (seqAt s now j) := by
  induction j with
  | zero => omega
  | succ j ih =>
    by_cases e : i = j
    · subst e; exact num_rise now i
    · exact Int.lt_trans (ih (by omega)) (num_rise now j)

theorem run_top {s : Dk} (ok : s.Ok) (now : Int) (n : Nat) : (s.run now (n + 1)).top = numOf (timeAt s now n) s.node (seqAt s now n) + 1 := by
  have h := run_at ok now n
  have hs := run_same s now n
  show (timeOf (s.run now n) now) * 4194304 + (s.run now n).node * 4096 + (seqOf (s.run now n) (timeOf (s.run now n) now) + 1) = _
  rw [h.2, h.1, hs.1]
  unfold numOf
  omega

/-- What holds of a fleet behind t ticks, whatever its memory; bot: what each desk gives from now on is not below. -/
structure FleetOk (t : Nat) (rs : List (Nat × Nat)) (d : Nat → Fd) (bot : Nat → Int) (all : List Int) : Prop where
  node : ∀ k, k < 6 → (d k).s.node = ((k / 2 : Nat) : Int)
  ok : ∀ k, k < 6 → (d k).s.Ok
  brw : ∀ k, k < 6 → (d k).s.brw = 100
  given : ∀ k, k < 6 → 0 ≤ (d k).s.given ∧ (d k).s.given ≤ 4000 * (t : Int)
  clk : ∀ k, k < 6 → -1000 - 15 * (t : Int) ≤ (d k).clk ∧ (d k).clk ≤ 2000 + 300 * (t : Int)
  fence : ∀ nd, fenceOf rs nd ≤ 2000 + 300 * t
  win : ∀ k, k < 6 → (d k).s.to ≤ (fenceOf rs (k / 2) : Int)
  apart : ∀ i j, i < 6 → j < 6 → i ≠ j → i / 2 = j / 2 → (d i).s.to ≤ (d j).s.frm ∨ (d j).s.to ≤ (d i).s.frm
  last : ∀ k, k < 6 → (d k).last = 0 ∨ (d k).last < bot k
  seen : ∀ n ∈ all, ∃ nd : Nat, n / 4096 % 1024 = (nd : Int) ∧ n / 4194304 < (fenceOf rs nd : Int) ∧ ∀ k, k < 6 → k / 2 = nd → (d k).s.frm ≤ n / 4194304 → n / 4194304 < (d k).s.to → n < bot k

/-- A desk may have been asked: what its window, its node and what it may borrow are stays. -/
theorem FleetOk.asked {t : Nat} {rs : List (Nat × Nat)} {d : Nat → Fd} {bot : Nat → Int} {all : List Int} (h : FleetOk t rs d bot all) (k : Nat) (x : Fd) (e1 : x.s.node = (d k).s.node) (e2 : x.s.frm = (d k).s.frm) (e3 : x.s.to = (d k).s.to) (e4 : x.s.brw = (d k).s.brw)
    (e5 : x.last = (d k).last) (ok : x.s.Ok) (g0 : 0 ≤ x.s.given) (g1 : x.s.given ≤ 4000 * ((t + 1 : Nat) : Int)) (c0 : -1000 - 15 * ((t + 1 : Nat) : Int) ≤ x.clk) (c1 : x.clk ≤ 2000 + 300 * ((t + 1 : Nat) : Int)) :
    FleetOk (t + 1) rs (upd d k x) bot all := by
  have cs : ∀ i, (upd d k x i = x ∧ i = k) ∨ (upd d k x i = d i ∧ i ≠ k) := fun i => by
    by_cases hi : i = k
    · subst hi; exact Or.inl ⟨upd_same _ _ _, rfl⟩
    · exact Or.inr ⟨upd_other _ _ _ hi, hi⟩
  have en : ∀ i, (upd d k x i).s.node = (d i).s.node := fun i => by rcases cs i with ⟨e, rfl⟩ | ⟨e, _⟩ <;> rw [e]; exact e1
  have ef : ∀ i, (upd d k x i).s.frm = (d i).s.frm := fun i => by rcases cs i with ⟨e, rfl⟩ | ⟨e, _⟩ <;> rw [e]; exact e2
  have et : ∀ i, (upd d k x i).s.to = (d i).s.to := fun i => by rcases cs i with ⟨e, rfl⟩ | ⟨e, _⟩ <;> rw [e]; exact e3
  have eb : ∀ i, (upd d k x i).s.brw = (d i).s.brw := fun i => by rcases cs i with ⟨e, rfl⟩ | ⟨e, _⟩ <;> rw [e]; exact e4
  have el : ∀ i, (upd d k x i).last = (d i).last := fun i => by rcases cs i with ⟨e, rfl⟩ | ⟨e, _⟩ <;> rw [e]; exact e5
  refine ⟨fun i hi => (en i).trans (h.node i hi), fun i hi => ?_, fun i hi => (eb i).trans (h.brw i hi), fun i hi => ?_, fun i hi => ?_, fun nd => Nat.le_trans (h.fence nd) (by omega), fun i hi => ?_, fun i j hi hj h1 h2 => ?_, fun i hi => ?_, fun n hn => ?_⟩
  · rcases cs i with ⟨e, _⟩ | ⟨e, _⟩ <;> rw [e]
    · exact ok
    · exact h.ok i hi
  · rcases cs i with ⟨e, _⟩ | ⟨e, _⟩ <;> rw [e]
    · exact ⟨g0, g1⟩
    · have := h.given i hi; omega
  · rcases cs i with ⟨e, _⟩ | ⟨e, _⟩ <;> rw [e]
    · exact ⟨c0, c1⟩
    · have := h.clk i hi; omega
  · rw [et]; exact h.win i hi
  · rw [et, ef, et, ef]; exact h.apart i j hi hj h1 h2
  · rw [el]; exact h.last i hi
  · obtain ⟨nd, h1, h2, h3⟩ := h.seen n hn
    exact ⟨nd, h1, h2, fun i hi h4 => by rw [ef, et]; exact h3 i hi h4⟩

/-- A number that a desk gives: it is no other's, and greater than its last one; then it is seen. -/
theorem FleetOk.gave {t : Nat} {rs : List (Nat × Nat)} {d : Nat → Fd} {bot : Nat → Int} {all : List Int} (h : FleetOk t rs d bot all) (k : Nat) (hk : k < 6) (x : Int) (hx : bot k ≤ x) (hn : x / 4096 % 1024 = ((k / 2 : Nat) : Int))
    (h1 : (d k).s.frm ≤ x / 4194304) (h2 : x / 4194304 < (d k).s.to) :
    x ∉ all ∧ ((d k).last = 0 ∨ (d k).last < x) ∧ ∀ all', (all' = all ∨ all' = all ++ [x]) → FleetOk t rs (upd d k { d k with last := x }) (upd bot k (x + 1)) all' := by
  refine ⟨fun hm => ?_, ?_, fun all' ha => ?_⟩
  · obtain ⟨nd, e1, e2, e3⟩ := h.seen x hm
    have hnd : k / 2 = nd := by omega
    have := e3 k hk hnd h1 h2
    omega
  · rcases h.last k hk with e | e
    · exact Or.inl e
    · exact Or.inr (by omega)
  · have es : ∀ i, (upd d k { d k with last := x } i).s = (d i).s ∧ (upd d k { d k with last := x } i).clk = (d i).clk := fun i => by
      by_cases hi : i = k
      · subst hi; rw [upd_same]; exact ⟨rfl, rfl⟩
      · rw [upd_other _ _ _ hi]; exact ⟨rfl, rfl⟩
    have bb : ∀ i, bot i ≤ upd bot k (x + 1) i := fun i => by
      by_cases hi : i = k
      · subst hi; rw [upd_same]; omega
      · rw [upd_other _ _ _ hi]; exact Int.le_refl _
    refine ⟨fun i hi => by rw [(es i).1]; exact h.node i hi, fun i hi => by rw [(es i).1]; exact h.ok i hi, fun i hi => by rw [(es i).1]; exact h.brw i hi, fun i hi => by rw [(es i).1]; exact h.given i hi, fun i hi => by rw [(es i).2]; exact h.clk i hi, h.fence, fun i hi => by rw [(es i).1]; exact h.win i hi,
      fun i j hi hj e1 e2 => by rw [(es i).1, (es j).1]; exact h.apart i j hi hj e1 e2, fun i hi => ?_, fun n hm => ?_⟩
    · by_cases hi' : i = k
      · subst hi'; rw [upd_same, upd_same]; exact Or.inr (by show x < x + 1; omega)
      · rw [upd_other _ _ _ hi', upd_other _ _ _ hi']; exact h.last i hi
    · have hold : n ∈ all → ∃ nd : Nat, n / 4096 % 1024 = (nd : Int) ∧ n / 4194304 < (fenceOf rs nd : Int) ∧ ∀ i, i < 6 → i / 2 = nd → (upd d k { d k with last := x } i).s.frm ≤ n / 4194304 → n / 4194304 < (upd d k { d k with last := x } i).s.to → n < upd bot k (x + 1) i := fun hm => by
        obtain ⟨nd, e1, e2, e3⟩ := h.seen n hm
        refine ⟨nd, e1, e2, fun i hi e4 e5 e6 => ?_⟩
        rw [(es i).1] at e5 e6
        exact Int.lt_of_lt_of_le (e3 i hi e4 e5 e6) (bb i)
      rcases ha with rfl | rfl
      · exact hold hm
      · rw [List.mem_append, List.mem_singleton] at hm
        rcases hm with hm | rfl
        · exact hold hm
        · refine ⟨k / 2, hn, Int.lt_of_lt_of_le h2 (h.win k hk), fun i hi e4 e5 e6 => ?_⟩
          by_cases hi' : i = k
          · subst hi'; rw [upd_same]; omega
          · rw [(es i).1] at e5 e6
            rcases h.apart i k hi hk hi' e4 with e | e <;> omega

/-- A desk has another lease, from its node's fence on. -/
theorem FleetOk.renewed {t : Nat} {rs : List (Nat × Nat)} {d : Nat → Fd} {bot : Nat → Int} {all : List Int} (h : FleetOk t rs d bot all) (k : Nat) (hk : k < 6) (f tt : Nat) (hf : fenceOf rs (k / 2) ≤ f) (hft : f < tt) (hto : tt ≤ 2000 + 300 * (t + 1)) (ht : tt ≤ 2199023255552)
    (x : Fd) (hxs : x.s = (d k).s.renew f tt) (hxc : x.clk = (f : Int)) (hxl : x.last = (d k).last) :
    FleetOk (t + 1) (rs ++ [(k / 2, tt)]) (upd d k x) bot all := by
  have cs : ∀ i, (upd d k x i = x ∧ i = k) ∨ (upd d k x i = d i ∧ i ≠ k) := fun i => by
    by_cases hi : i = k
    · subst hi; exact Or.inl ⟨upd_same _ _ _, rfl⟩
    · exact Or.inr ⟨upd_other _ _ _ hi, hi⟩
  have xn : x.s.node = (d k).s.node := by rw [hxs]; rfl
  have xf : x.s.frm = (f : Int) := by rw [hxs]; rfl
  have xt : x.s.to = (tt : Int) := by rw [hxs]; rfl
  have xb : x.s.brw = (d k).s.brw := by rw [hxs]; rfl
  have xg : x.s.given = (d k).s.given := by rw [hxs]; rfl
  have hfe : ∀ nd, fenceOf rs nd ≤ fenceOf (rs ++ [(k / 2, tt)]) nd := fun nd => by
    rw [fence_snoc]
    by_cases e : k / 2 = nd
    · rw [if_pos e, ← e]; exact Nat.le_trans hf (Nat.le_of_lt hft)
    · rw [if_neg e]; exact Nat.le_refl _
  have hwk := h.win
  have hok := h.ok k hk
  refine ⟨fun i hi => ?_, fun i hi => ?_, fun i hi => ?_, fun i hi => ?_, fun i hi => ?_, fun nd => ?_, fun i hi => ?_, fun i j hi hj h1 h2 => ?_, fun i hi => ?_, fun n hn => ?_⟩
  · rcases cs i with ⟨e, e'⟩ | ⟨e, _⟩ <;> rw [e]
    · rw [xn, e']; exact h.node k hk
    · exact h.node i hi
  · rcases cs i with ⟨e, _⟩ | ⟨e, _⟩ <;> rw [e]
    · rw [hxs]
      exact hok.renew ⟨hok.n0, hok.n1, by omega, by omega, by omega⟩
    · exact h.ok i hi
  · rcases cs i with ⟨e, e'⟩ | ⟨e, _⟩ <;> rw [e]
    · rw [xb]; exact h.brw k hk
    · exact h.brw i hi
  · rcases cs i with ⟨e, e'⟩ | ⟨e, _⟩ <;> rw [e]
    · rw [xg]; have := h.given k hk; omega
    · have := h.given i hi; omega
  · rcases cs i with ⟨e, e'⟩ | ⟨e, _⟩ <;> rw [e]
    · rw [hxc]; omega
    · have := h.clk i hi; omega
  · rw [fence_snoc]
    have := h.fence nd
    by_cases e : k / 2 = nd
    · rw [if_pos e]; exact hto
    · rw [if_neg e]; omega
  · rcases cs i with ⟨e, e'⟩ | ⟨e, _⟩ <;> rw [e]
    · rw [xt, fence_snoc, e', if_pos rfl]
      exact Int.le_refl _
    · have := hfe (i / 2)
      have hw := hwk i hi
      omega
  · have wi := hwk i hi
    have wj := hwk j hj
    rcases cs i with ⟨e, hi'⟩ | ⟨e, hi'⟩ <;> rcases cs j with ⟨e', hj'⟩ | ⟨e', hj'⟩ <;> rw [e, e']
    · omega
    · right; rw [xf]; rw [← h2, hi'] at wj; omega
    · left; rw [xf]; rw [h2, hj'] at wi; omega
    · exact h.apart i j hi hj h1 h2
  · rcases cs i with ⟨e, e'⟩ | ⟨e, _⟩ <;> rw [e]
    · rw [hxl, e']; exact h.last k hk
    · exact h.last i hi
  · obtain ⟨nd, e1, e2, e3⟩ := h.seen n hn
    have := hfe nd
    refine ⟨nd, e1, by omega, fun i hi e4 e5 e6 => ?_⟩
    rcases cs i with ⟨e, e'⟩ | ⟨e, _⟩ <;> rw [e] at e5 e6
    · exfalso
      rw [xf] at e5
      rw [e'] at e4
      rw [e4] at hf
      omega
    · exact e3 i hi e4 e5 e6
end Go.Proofs.Ytdplffhieekfaaa
