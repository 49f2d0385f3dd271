/-
  What the reading of a script gives: its steps lie in memory.
  How long a script can be.
-/
import Derived.Test.YtdplffhieekfaaaDoorLawPlay
import Derived.OpenShut
import Derived.Deep.SlicePairs
import Derived.SizedLaws
namespace Go.Proofs.YtdplffhieekfaaaDoor
open Go.RowKit Go.ChangeShapes Go.WideShapes

theorem op_cells : Tryd.prog.cellsOf 46 = 9 := by kernel_rfl
theorem op_c0 : Tryd.prog.cellsOf 3 = 1 := by kernel_rfl
theorem op_c4 : Tryd.prog.cellsOf 25 = 1 := by kernel_rfl
theorem op_c5 : Tryd.prog.cellsOf 9 = 1 := by kernel_rfl
theorem op_c6 : Tryd.prog.cellsOf 44 = 3 := by kernel_rfl

theorem weights_all {H : Type} {P : Program} {e : TypeId} {d : DataW H} : ∀ {l : List (DataW H)}, d ∈ l → ∀ n ∈ d.weights P e, n ∈ DataW.weightsAll P e l
  | [], h, _, _ => by cases h
  | x :: r, h, n, hn => by
    simp only [DataW.weightsAll, List.mem_append]
    rcases List.mem_cons.1 h with rfl | h
    · exact Or.inl hn
    · exact Or.inr (weights_all h n hn)

set_option maxRecDepth 100000 in
theorem op_of {H : Type} {enc : TypeId × Value → H} {W : World} {sp : Nat → Bool} {held : Bool} {n : Nat} {a : Addr} {cs : List Value} {D : DataW H} {Pl : List MemPlace}
    (h1 : W.cells? 0 a 9 = some cs) (h2 : DataW.trod enc Tryd.prog W 0 sp held n 46 cs = some (D, Pl)) (hz : ∀ m ∈ D.weights Tryd.prog 46, m ≤ reachBytes) :
    a.spot = none ∧ a.block < W.heap.size ∧ ∃ kd on x y n s l0 l1 l2, OpAt W a.block a.off kd on x y n s l0 l1 l2 := by
  obtain ⟨_, hlen, hcell⟩ := World.cells?_some h1
  obtain ⟨xs, k, hk, hxy, _, hxl, hf⟩ := DataW.trod_struct Tryd.underlying46 h2
  match xs, hxl, cs, hlen with
  | [y0, y1, y2, y3, y4, y5, y6], _, [v0, v1, v2, v3, v4, v5, v6, v7, v8], _ =>
    have g0 := hf 0 _ rfl
    have g1 := hf 1 _ rfl
    have g2 := hf 2 _ rfl
    have g3 := hf 3 _ rfl
    have g4 := hf 4 _ rfl
    have g5 := hf 5 _ rfl
    have g6 := hf 6 _ rfl
    simp [op_c0, op_c4, op_c5, op_c6] at g0 g1 g2 g3 g4 g5 g6
    obtain ⟨z0, e0, _, w0⟩ := DataW.trod_int Tryd.underlying3 g0
    obtain ⟨z1, e1, _, w1⟩ := DataW.trod_int Tryd.underlying3 g1
    obtain ⟨z2, e2, _, w2⟩ := DataW.trod_int Tryd.underlying3 g2
    obtain ⟨z3, e3, _, w3⟩ := DataW.trod_int Tryd.underlying3 g3
    obtain ⟨z4, e4, _, w4⟩ := DataW.trod_int Tryd.underlying25 g4
    obtain ⟨s, e5, d5, _⟩ := DataW.trod_string Tryd.underlying9 g5
    obtain ⟨xs6, k6, hk6, hxy6, _, hxl6, hf6⟩ := DataW.trod_struct Tryd.underlying44 g6
    have p0 := hf6 0 _ rfl
    have p1 := hf6 1 _ rfl
    have p2 := hf6 2 _ rfl
    match xs6, hxl6 with
    | [q0, q1, q2], _ =>
      simp [op_c0] at p0 p1 p2
      obtain ⟨z6, e6, _, w6⟩ := DataW.trod_int Tryd.underlying3 p0
      obtain ⟨z7, e7, _, w7⟩ := DataW.trod_int Tryd.underlying3 p1
      obtain ⟨z8, e8, _, w8⟩ := DataW.trod_int Tryd.underlying3 p2
      simp only [List.cons.injEq, and_true] at e0 e1 e2 e3 e4 e5 e6 e7 e8
      subst e0 e1 e2 e3 e4 e5 e6 e7 e8
      simp only [Prod.mk.injEq] at hxy
      have hsz : s.size ≤ 140737488355328 := by
        have hm : s.size ∈ D.weights Tryd.prog 46 := by
          rw [hxy.1]
          simp only [DataW.weights, Tryd.underlying46]
          refine DataW.weights_mem_each (j := 5) (t := 9) (d := y5.1) rfl rfl _ ?_
          rw [d5]
          simp only [DataW.weights, List.mem_singleton, Array.length_toList]
          rfl
        exact Nat.le_trans (hz _ hm) (by decide)
      have c := fun i (hi : i < 9) => hcell i hi
      have hspot : a.spot = none := by simpa [Addr.add] using World.cell?_spot (c 0 (by omega))
      obtain ⟨b, o, spt⟩ := a
      simp only at hspot
      subst hspot
      refine ⟨rfl, World.cells?_block h1 (by omega), z0, z1, z2, z3, z4, s, z6, z7, z8, ?_⟩
      exact { c0 := by simpa [Addr.add] using c 0 (by omega), c1 := by simpa [Addr.add] using c 1 (by omega), c2 := by simpa [Addr.add] using c 2 (by omega), c3 := by simpa [Addr.add] using c 3 (by omega), c4 := by simpa [Addr.add] using c 4 (by omega), c5 := by simpa [Addr.add] using c 5 (by omega), c6 := by simpa [Addr.add] using c 6 (by omega), c7 := by simpa [Addr.add] using c 7 (by omega), c8 := by simpa [Addr.add] using c 8 (by omega), bkd := bounds_i64 w0, bon := bounds_i64 w1, bx := bounds_i64 w2, by' := bounds_i64 w3, bn := bounds_u64 w4, bs := hsz, b0 := bounds_i64 w6, b1 := bounds_i64 w7, b2 := bounds_i64 w8 }

set_option maxRecDepth 100000 in
theorem script_of {H : Type} {enc : TypeId × Value → H} {W : World} {base : Nat} {v : Value} {d : DataW H} {p : List MemPlace} (hv : Value.okWide Tryd.prog W .any base 22 v)
    (h : DataW.Trod enc Tryd.prog W 0 (fun _ => true) true 22 v d p) (hz : ∀ m ∈ d.weights Tryd.prog 22, m ≤ reachBytes) : ScriptAt W v := by
  obtain ⟨a0, len0, cap0, rfl⟩ := okWide_slice Tryd.underlying22 hv
  obtain ⟨fuel, h⟩ := h
  rcases Go.Deep.open_slice Tryd.underlying22 h with ⟨h0, _⟩ | ⟨a, len, cap, m, n, D, Pl, hc, _, hl, hmax, hm, hx, hel⟩
  · have h0' : [Value.slice a0 len0 cap0] = [.slice none 0 0] := h0
    simp only [List.cons.injEq, and_true] at h0'
    exact Or.inl h0'
  · have hc' : [Value.slice a0 len0 cap0] = [.slice (some a) len cap] := hc
    simp only [List.cons.injEq, and_true] at hc'
    simp only [if_true] at hm
    subst hm
    simp only [Prod.mk.injEq] at hx
    have hab : ∀ i, (a.add (i * 9)).block = a.block := fun i => by unfold Addr.add; split <;> rfl
    have hao : ∀ i, (a.add (i * 9)).off = a.off + i * 9 := fun i => by
      unfold Addr.add
      split
      · rename_i h9; rw [h9]; rfl
      · rfl
    have hone : ∀ i, i < len → (a.add (i * 9)).spot = none ∧ a.block < W.heap.size ∧ ∃ kd on x y n s l0 l1 l2, OpAt W a.block (a.off + i * 9) kd on x y n s l0 l1 l2 := fun i hi => by
      obtain ⟨cs', g1, g2⟩ := hel i (by omega)
      rw [op_cells] at g1
      have hmem : D i ∈ (List.range len).map D := List.mem_map.2 ⟨i, List.mem_range.2 hi, rfl⟩
      have := op_of g1 g2 (fun k hk => hz k (by
        rw [hx.1]
        simp only [DataW.weights, Tryd.underlying22, List.mem_cons, List.mem_append]
        exact Or.inr (Or.inl (weights_all hmem k hk))))
      rw [hab, hao] at this
      exact this
    have hml : maxLen = 9223372036854775807 := by decide
    rw [hc']
    obtain ⟨b, o, sp⟩ := a
    exact Or.inr ⟨b, o, sp, len, _, rfl, by omega, fun hp => ⟨by simpa [Addr.add] using (hone 0 hp).1, (hone 0 hp).2.1⟩, fun i hi => (hone i hi).2.2⟩
end Go.Proofs.YtdplffhieekfaaaDoor
namespace Go.Proofs.YtdplffhieekfaaaDoor
open Go.RowKit Go.ChangeShapes Go.WideShapes

theorem op_bytes : Tryd.prog.bytesOf 46 = 80 := by kernel_rfl

set_option maxRecDepth 100000 in
theorem script_len {H : Type} {enc : TypeId × Value → H} {W : World} {base : Nat} {v : Value} {d : DataW H} {p : List MemPlace} (hv : Value.okWide Tryd.prog W .any base 22 v)
    (h : DataW.Trod enc Tryd.prog W 0 (fun _ => true) true 22 v d p) (hz : ∀ m ∈ d.weights Tryd.prog 22, m ≤ reachBytes) : ∃ a len cap, v = .slice a len cap ∧ len ≤ 1759218604390 := by
  obtain ⟨a0, len0, cap0, rfl⟩ := okWide_slice Tryd.underlying22 hv
  obtain ⟨fuel, h⟩ := h
  rcases Go.Deep.open_slice Tryd.underlying22 h with ⟨h0, _⟩ | ⟨a, len, cap, m, n, D, Pl, hc, _, hl, hmax, hm, hx, hel⟩
  · have h0' : [Value.slice a0 len0 cap0] = [.slice none 0 0] := h0
    simp only [List.cons.injEq, and_true] at h0'
    exact ⟨none, 0, 0, h0', Nat.zero_le _⟩
  · have hc' : [Value.slice a0 len0 cap0] = [.slice (some a) len cap] := hc
    simp only [List.cons.injEq, and_true] at hc'
    simp only [if_true] at hm
    subst hm
    simp only [Prod.mk.injEq] at hx
    refine ⟨_, len, _, hc', ?_⟩
    have := hz ((((List.range len).map D).length + ((List.range (m - len)).map fun j => D (len + j)).length) * Tryd.prog.bytesOf 46) (by
      rw [hx.1]
      simp only [DataW.weights, Tryd.underlying22, List.mem_cons]
      exact Or.inl trivial)
    rw [op_bytes, List.length_map, List.length_range] at this
    unfold reachBytes at this
    omega
end Go.Proofs.YtdplffhieekfaaaDoor
