/-
  stampslaw's owner writes a list over, and keeps it.
  Conditions: the law's own rows, apart from one another.
-/
import Derived.Test.YtdplffhieekfaaaDoorAppendOne
namespace Go.Proofs.YtdplffhieekfaaaDoor
open Go.RowKit

theorem len_row (n cap : Nat) (a : Option Addr) (w : World) (ty : TypeId) : (Builtin.len_ #[40] ty #[.slice a n cap]).run Tryd.prog w = .ok (goInt n) w := by
  simp [Builtin.len_, run_underlying Tryd.underlying40]

theorem owns_slice {w : World} {base : Nat} {e : TypeId} {size : Nat} {v : Value} {n : Nat} {xs : List Value} (h : w.ownsRow base e size v n xs) : ∃ a cap, v = .slice a n cap := by
  rcases h.2 with ⟨rfl, rfl⟩ | ⟨g, cap, cur, rfl, _⟩
  · exact ⟨_, _, rfl⟩
  · exact ⟨_, _, rfl⟩

theorem owns_frozen {w : World} {base g n cap : Nat} {e : TypeId} {xs : List Value} (h : w.ownsRow base e 1 (.slice (some ⟨g, 0, none⟩) n cap) n xs) (j : Nat) (hj : j < n) : (∃ v, w.cell? ⟨g, j, none⟩ = some v) ∧ w.frozen? ⟨g, j, none⟩ = false := by
  rcases h.2 with ⟨he, _⟩ | ⟨g', cap', cur, he, e2, e3, e4, e5, e6, e7⟩
  · cases he
  · simp only [Value.slice.injEq, Option.some.injEq, Addr.mk.injEq] at he
    obtain ⟨⟨rfl, _⟩, _, rfl⟩ := he
    constructor
    · refine ⟨cur[j]'(by omega), ?_⟩
      simp only [World.cell?, e3]
      simp
    · simp only [World.frozen?, e3]
      simp

/-- The law's rows. -/
structure RowsAt (W : World) (B : Nat) (lv mv : Value) (q : Nat) (Ls Ms : List Value) (c : Int) : Prop where
  c2 : W.cell? ⟨B, 2, none⟩ = some lv
  c3 : W.cell? ⟨B, 3, none⟩ = some mv
  c4 : W.cell? ⟨B, 4, none⟩ = some (.int .u64 c)
  fz : ∀ o, W.frozen? ⟨B, o, none⟩ = false
  lists : W.ownsRow (B + 1) 40 1 lv q Ls
  marks : W.ownsRow (B + 1) 25 1 mv q Ms
  apart : ∀ g, lv.ownBlock = some g → mv.ownBlock ≠ some g

/-- Between two rounds of the writing over. -/
structure OverAt (w W : World) (B : Nat) (l : Value) (n k : Nat) (x : Int) : Prop where
  keep : Keep (fun i => l.ownBlock = some i) w W
  own : ∃ ys, W.ownsRow (B + 1) 25 1 l n ys ∧ ∀ j, j < k → ys[j]? = some (.int .u64 x)

theorem OverAt.step {w W : World} {B g n cap k : Nat} {x : Int} (h : OverAt w W B (.slice (some ⟨g, 0, none⟩) n cap) n k x) (hk : k < n) : OverAt w (W.setCell ⟨g, k, none⟩ (.int .u64 x)) B (.slice (some ⟨g, 0, none⟩) n cap) n (k + 1) x := by
  obtain ⟨ys, h1, h2⟩ := h.own
  refine ⟨h.keep.setCell (p := ⟨g, k, none⟩) (fun _ => rfl) _, _, owns_set h1 k (.int .u64 x), fun j hj => ?_⟩
  by_cases hjk : j = k
  · subst hjk
    rw [List.getElem?_set_self (by rw [h1.1]; omega)]
  · rw [List.getElem?_set_ne (by omega)]
    exact h2 j (by omega)

theorem bytes_info : (Tryd.prog.info? 40).map (fun i => (i.zero, i.size, i.bytes)) = some (some (.slice none 0 0), 1, 24) := by kernel_rfl

end Go.Proofs.YtdplffhieekfaaaDoor
