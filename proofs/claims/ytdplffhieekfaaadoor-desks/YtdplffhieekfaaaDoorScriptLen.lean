/-
  How long a script can be.
-/
import Derived.Test.YtdplffhieekfaaaDoorScript
namespace Go.Proofs.YtdplffhieekfaaaDoor
open Go.RowKit Go.ChangeShapes Go.WideShapes

theorem op_bytes : Tryd.prog.bytesOf 46 = 80 := by kernel_rfl

set_option maxRecDepth 100000 in
theorem script_len {H : Type} {enc : TypeId × Value → H} {W : World} {base : Nat} {v : Value} {d : DataW H} {p : List MemPlace} (hv : Value.okWide Tryd.prog W .any base 22 v)
    (h : DataW.Trod enc Tryd.prog W 0 (fun _ => true) true 22 v d p) (hz : ∀ m ∈ d.weights Tryd.prog 22, m ≤ reachBytes) : ∃ a len cap, v = .slice a len cap ∧ len ≤ 1759218604390 := by
  obtain ⟨a0, len0, cap0, rfl⟩ := okWide_slice Tryd.underlying22 hv
  obtain ⟨fuel, h⟩ := h
  rcases Go.Deep.open_slice Tryd.underlying22 h with ⟨h0, _⟩ | ⟨a, len, cap, m, n, D, Pl, hc, _, hl, hmax, hm, hx, hel⟩
  · have h0' : [Value.slice a0 len0 cap0] = [.slice none 0 0] := h0
    simp only [List.cons.injEq, and_true] at h0'
    exact ⟨none, 0, 0, h0', Nat.zero_le _⟩
  · have hc' : [Value.slice a0 len0 cap0] = [.slice (some a) len cap] := hc
    simp only [List.cons.injEq, and_true] at hc'
    simp only [if_true] at hm
    subst hm
    simp only [Prod.mk.injEq] at hx
    refine ⟨_, len, _, hc', ?_⟩
    have := hz ((((List.range len).map D).length + ((List.range (m - len)).map fun j => D (len + j)).length) * Tryd.prog.bytesOf 46) (by
      rw [hx.1]
      simp only [DataW.weights, Tryd.underlying22, List.mem_cons]
      exact Or.inl trivial)
    rw [op_bytes, List.length_map, List.length_range] at this
    unfold reachBytes at this
    omega
end Go.Proofs.YtdplffhieekfaaaDoor
