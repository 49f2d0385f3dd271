/-
  Plain numbers: the letters of the short text, what each is worth, a number's thirteen letters and back.
-/
import Derived.Lib.Bytealg
namespace Go.Proofs.YtdplffhieekfaaaDoor

/-- The alphabet, by its bytes. -/
def alpha : List UInt8 := [48, 49, 50, 51, 52, 53, 54, 55, 56, 57, 65, 66, 67, 68, 69, 70, 71, 72, 74, 75, 77, 78, 80, 81, 82, 83, 84, 86, 87, 88, 89, 90]

/-- A small letter's great one. -/
def greatOf (c : Nat) : Nat := if 97 ≤ c ∧ c ≤ 122 then c - 32 else c

/-- Where a byte stands in the alphabet, or -1. -/
def placeOf (g : Nat) : Int := Lib.indexByte alpha g.toUInt8

/-- What a letter is worth; 32: it is none. -/
def worthOf (c : Nat) : Nat :=
  if greatOf c = 73 ∨ greatOf c = 76 then 1 else if greatOf c = 79 then 0 else if 0 ≤ placeOf (greatOf c) then (placeOf (greatOf c)).toNat else 32

theorem worthOf_le (c : Nat) (h : c < 256) : worthOf c ≤ 32 := by
  have key : ∀ c : Fin 256, worthOf c.1 ≤ 32 := by decide +kernel
  exact key ⟨c, h⟩

theorem placeOf_ge (g : Nat) (h : g < 256) : -1 ≤ placeOf g ∧ placeOf g < 32 := by
  have key : ∀ g : Fin 256, -1 ≤ placeOf g.1 ∧ placeOf g.1 < 32 := by decide +kernel
  exact key ⟨g, h⟩

/-- The letter that is worth d. -/
def letterOf (d : Nat) : Nat := (alpha.getD d 0).toNat

theorem letterOf_lt (d : Nat) : letterOf d < 256 := by
  unfold letterOf; exact (alpha.getD d 0).toNat_lt

theorem worth_letter (d : Nat) (h : d < 32) : worthOf (letterOf d) = d := by
  have key : ∀ d : Fin 32, worthOf (letterOf d.1) = d.1 := by decide +kernel
  exact key ⟨d, h⟩

/-- What letters are worth together, by their worths, the highest first. -/
def valOf (l : List Nat) : Nat := l.foldl (fun n d => n * 32 + d) 0

theorem valOf_snoc (l : List Nat) (d : Nat) : valOf (l ++ [d]) = valOf l * 32 + d := by
  unfold valOf; rw [List.foldl_append]; rfl

theorem foldl_lt (l : List Nat) : ∀ n, (∀ d ∈ l, d < 32) → l.foldl (fun n d => n * 32 + d) n < (n + 1) * 32 ^ l.length := by
  induction l with
  | nil => intro n _; simp
  | cons d l ih =>
    intro n h
    have h1 := ih (n * 32 + d) (fun x hx => h x (by simp [hx]))
    have h2 := h d (by simp)
    simp only [List.foldl_cons, List.length_cons, Nat.pow_succ]
    refine Nat.lt_of_lt_of_le h1 ?_
    rw [Nat.mul_comm (32 ^ l.length) 32, ← Nat.mul_assoc]
    exact Nat.mul_le_mul_right _ (by omega)

theorem valOf_lt (l : List Nat) (h : ∀ d ∈ l, d < 32) : valOf l < 32 ^ l.length := by
  have := foldl_lt l 0 h
  simpa [valOf] using this

theorem valOf_cons_lt (d : Nat) (l : List Nat) (h : ∀ x ∈ l, x < 32) : valOf (d :: l) < (d + 1) * 32 ^ l.length := by
  have := foldl_lt l (0 * 32 + d) h
  rw [Nat.zero_mul, Nat.zero_add] at this
  simpa [valOf] using this

/-- The digit at place i of thirteen. -/
def digAt (n i : Nat) : Nat := n / 32 ^ (12 - i) % 32

theorem digAt_lt (n i : Nat) : digAt n i < 32 := Nat.mod_lt _ (by omega)

end Go.Proofs.YtdplffhieekfaaaDoor
