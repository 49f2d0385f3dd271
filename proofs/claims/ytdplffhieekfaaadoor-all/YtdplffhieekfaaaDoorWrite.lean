/-
  letters.Write: the thirteen letters of a number.
-/
import Derived.Test.YtdplffhieekfaaaDoorLetters
import Derived.Test.YtdplffhieekfaaaDoorNew
import Derived.Lib.ItoaMem
namespace Go.Proofs.YtdplffhieekfaaaDoor
open Go.RowKit

/-- The world between two rounds of Write: the letters from place i on are laid. -/
structure WriteAt (w W : World) (n i : Nat) : Prop where
  bel : Below w.heap.size w W
  lt : w.heap.size < W.heap.size
  made : ∀ j, i ≤ j → j < 13 → W.cell? ⟨w.heap.size, j, none⟩ = some (.int .u8 (letterOf (digAt n j)))
  room : ∀ j, j < 13 → ∃ v, W.cell? ⟨w.heap.size, j, none⟩ = some v
  fz : ∀ j, W.frozen? ⟨w.heap.size, j, none⟩ = false

theorem alpha_at (d : Nat) (h : d < (⟨#[48, 49, 50, 51, 52, 53, 54, 55, 56, 57, 65, 66, 67, 68, 69, 70, 71, 72, 74, 75, 77, 78, 80, 81, 82, 83, 84, 86, 87, 88, 89, 90]⟩ : ByteArray).size) : ((⟨#[48, 49, 50, 51, 52, 53, 54, 55, 56, 57, 65, 66, 67, 68, 69, 70, 71, 72, 74, 75, 77, 78, 80, 81, 82, 83, 84, 86, 87, 88, 89, 90]⟩ : ByteArray)[d]).toNat = letterOf d := by
  have key : ∀ d : Fin 32, ((⟨#[48, 49, 50, 51, 52, 53, 54, 55, 56, 57, 65, 66, 67, 68, 69, 70, 71, 72, 74, 75, 77, 78, 80, 81, 82, 83, 84, 86, 87, 88, 89, 90]⟩ : ByteArray)[d.1]'(by have := d.2; show _ < 32; omega)).toNat = letterOf d.1 := by decide +kernel
  exact key ⟨d, h⟩

theorem WriteAt.step {w W : World} {n k : Nat} (h : WriteAt w W n k) (hk0 : 0 < k) (hk : k ≤ 13) {v : Value} (hv : W.cell? ⟨w.heap.size, k - 1, none⟩ = some v) :
    WriteAt w (W.setCell ⟨w.heap.size, k - 1, none⟩ (.int .u8 (letterOf (digAt n (k - 1))))) n (k - 1) := by
  obtain ⟨bel, lt, made, room, fz⟩ := h
  refine ⟨bel.setCell (Nat.le_refl _) _, by simpa [World.setCell] using lt, fun j h1 h2 => ?_, fun j hj => ?_, fun j => by rw [World.frozen?_setCell]; exact fz j⟩
  · by_cases hj : j = k - 1
    · subst hj; exact World.cell?_setCell_same _ _ _ hv
    · rw [World.cell?_setCell_other _ ⟨w.heap.size, k - 1, none⟩ ⟨w.heap.size, j, none⟩ _ (by simp)]
      exact made j (by omega) h2
  · by_cases hj' : j = k - 1
    · subst hj'; exact ⟨_, World.cell?_setCell_same _ _ _ hv⟩
    · obtain ⟨u, hu⟩ := room j hj
      exact ⟨u, by rw [World.cell?_setCell_other _ ⟨w.heap.size, k - 1, none⟩ ⟨w.heap.size, j, none⟩ _ (by simp)]; exact hu⟩

theorem dig_step (n k m : Nat) (hk0 : 0 < k) (hk : k ≤ 13) (hm : m = n / 32 ^ (13 - k)) : m / 32 = n / 32 ^ (13 - (k - 1)) ∧ digAt n (k - 1) = m % 32 := by
  constructor
  · rw [hm, Nat.div_div_eq_div_mul, ← Nat.pow_succ]
    congr 2; omega
  · unfold digAt
    rw [hm]
    congr 3; omega

/-- The thirteen letters of a number. -/
def shortOf (n : Nat) : List UInt8 := (List.range 13).map fun j => (letterOf (digAt n j)).toUInt8

set_option maxRecDepth 100000 in
set_option maxHeartbeats 1000000 in
theorem write_any (n : Nat) (w : World) (h : n < 9223372036854775808) :
    Calls Tryd.prog 20 #[.int .u64 n] w fun e w' => e = .returned (.string ⟨(shortOf n).toArray⟩) ∧ Below w.heap.size w w' := by
  go_enter Tryd.func20, Tryd.ntmps20
  go_wp2
  go_loopw [0, 4] (fun x i W => ∃ k m : Nat, k ≤ 13 ∧ m ≤ n ∧ i = .int .i64 ((k : Int) - 1) ∧ x = .int .u64 m ∧ Hid (m = n / 32 ^ (13 - k)) ∧ Hid (WriteAt w W n k)) (fun _ i _ => (intOf i + 1).toNat)
  case atStart =>
    refine ⟨13, n, by omega, Nat.le_refl _, rfl, rfl, ?_, ?_⟩
    · show n = n / 32 ^ 0; simp
    · have hc := fun o => cell_alloc_new w #[.int .u8 0, .int .u8 0, .int .u8 0, .int .u8 0, .int .u8 0, .int .u8 0, .int .u8 0, .int .u8 0, .int .u8 0, .int .u8 0, .int .u8 0, .int .u8 0, .int .u8 0] 77 o
      refine ⟨(Below.refl _ w).alloc (Nat.le_refl _) _, by simp, fun j h1 h2 => absurd h1 (by omega), fun j hj => ?_, fun j => (hc j).2⟩
      rw [(hc j).1]
      exact ⟨_, Array.getElem?_eq_getElem (by simpa using hj)⟩
  case round =>
    obtain ⟨k, m, hk, hmn, rfl, rfl, hm, hW⟩ := hrel
    by_cases hk0 : 0 < k
    · obtain ⟨bel, lt, made, room, fz⟩ := hW.out
      obtain ⟨v, hv⟩ := room (k - 1) (by omega)
      have hz := fz (k - 1)
      have hkc : ((k : Int) - 1) = ((k - 1 : Nat) : Int) := by omega
      rw [hkc]
      clear room fz made hkc bel
      go_wp2
      rw [alpha_at]
      obtain ⟨d1, d2⟩ := dig_step n k m hk0 hk hm.out
      refine ⟨⟨k - 1, m / 32, by omega, by omega, by rw [show ((k - 1 : Nat) : Int) - 1 = ((k - 1 : Nat) : Int) - 1 from rfl], by go_num, d1, ?_⟩, by simp [intOf]⟩
      have := hW.out.step hk0 hk hv
      rw [d2] at this
      exact this
    · have hk1 : k = 0 := by omega
      subst hk1
      obtain ⟨bel, lt, made, room, fz⟩ := hW.out
      have bel' : Hid _ := bel
      have hlen : (shortOf n).length = 13 := by simp [shortOf]
      have hcv : (convert 32 9 (.slice (some ⟨w.heap.size, 0, none⟩) 13 13)).run Tryd.prog wr = .ok (.string ⟨(shortOf n).toArray⟩) wr := by
        have h1 := run_convert_bytes_back (P := Tryd.prog) wr 32 9 5 ⟨w.heap.size, 0, none⟩ 13 (shortOf n) Tryd.underlying32 Tryd.underlying5 Tryd.underlying9 (fun j hj => by
          rw [hlen] at hj
          rw [Lib.add_plain, Nat.zero_add, made j (Nat.zero_le _) hj]
          simp only [shortOf, List.getElem_map, List.getElem_range]
          rw [UInt8.toNat_ofNat_of_lt' (letterOf_lt _)])
        rw [hlen] at h1
        exact h1
      clear bel room made hlen
      go_wp2
      go_ret
      exact ⟨rfl, bel'.out⟩
end Go.Proofs.YtdplffhieekfaaaDoor
