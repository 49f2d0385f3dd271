/-
  A journal's bytes in memory: a row that []byte made of a text, or append of it; append of a text, and its text again. As steps of a region that draws its order, too.
-/
import Derived.Test.YtdplffhieekfaaaFences
import Derived.Lib.FrozenHead
import Derived.Deep.RegionLaw
import Derived.Deep.QuietTactic
namespace Go.Proofs.Ytdplffhieekfaaa
open Go.RowKit Go.Maps Go.Lib

/-- A row of bytes of which nothing within is frozen. -/
structure BytesAt (w : World) (g cap : Nat) (l : List UInt8) : Prop where
  row : ∃ cur fz, w.heap[g]? = some (.cells cur 5 fz) ∧ (fz.2 = 0 ∨ cap ≤ fz.1) ∧ cur.size = cap ∧ l.length ≤ cap ∧ cap ≤ maxLen ∧ cur.toList.take l.length = strCells (btext l)

theorem BytesAt.lt {w : World} {g cap : Nat} {l : List UInt8} (h : BytesAt w g cap l) : g < w.heap.size := by
  obtain ⟨cur, fz, h1, _⟩ := h.row
  exact (Array.getElem?_eq_some_iff.1 h1).1

theorem BytesAt.on {w w' : World} {g cap : Nat} {l : List UInt8} (h : BytesAt w g cap l) (hb : w'.heap[g]? = w.heap[g]?) : BytesAt w' g cap l := by
  obtain ⟨cur, fz, h1, h2⟩ := h.row
  exact ⟨cur, fz, hb.trans h1, h2⟩

theorem strCells_btext_length (l : List UInt8) : (strCells (btext l)).length = l.length := by rw [strCells_length, btext_size]

theorem strCells_get (l : List UInt8) (j : Nat) (h : j < l.length) : (strCells (btext l))[j]? = some (.int .u8 (l[j]).toNat) := by
  simp [strCells, h]

theorem BytesAt.cells {w : World} {g cap : Nat} {l : List UInt8} (h : BytesAt w g cap l) : ∀ j u, (strCells (btext l))[j]? = some u → w.cell? ((⟨g, 0, none⟩ : Addr).add j) = some u := by
  intro j u hu
  obtain ⟨cur, fz, h1, h2, h3, h4, h5, h6⟩ := h.row
  have hj : j < l.length := by
    have := (List.getElem?_eq_some_iff.1 hu).1
    rwa [strCells_btext_length] at this
  rw [Lib.add_plain, Nat.zero_add]
  rw [← h6, List.getElem?_take, if_pos hj] at hu
  simp only [World.cell?, h1]
  simpa using hu

/-- '[]byte(text)'. -/
theorem bytes_made (w : World) (l : List UInt8) (hl : l.length ≤ maxLen) : ∃ cap w', (convert 9 88 (.string (btext l))).run Try.prog w = .ok (.slice (some ⟨w.heap.size, 0, none⟩) l.length cap) w' ∧ BytesAt w' w.heap.size cap l ∧ Below w.heap.size w w' := by
  have hr := run_bytes_of_string (P := Try.prog) w 9 88 5 (btext l) Try.underlying9 Try.underlying88 Try.underlying5
  rw [btext_size] at hr
  have hge := grownCap_ge w l.length 0 5
  have hcm : grownCap w l.length 0 5 ≤ maxLen := grownCap_le_maxLen w l.length 0 5 hl
  have hsz : (bytesRow (btext l) (grownCap w l.length 0 5)).size = grownCap w l.length 0 5 := by
    unfold bytesRow
    rw [Array.size_append, Array.size_map, Array.size_replicate, btext_size]
    show l.toArray.size + _ = _
    simp
    omega
  refine ⟨_, _, hr, ⟨_, _, heap_alloc_new w.drew _, Or.inr (by rw [hsz]; exact Nat.le_refl _), hsz, hge, hcm, ?_⟩, (Below.refl _ w).drew.alloc (Nat.le_refl _) _⟩
  unfold bytesRow
  rw [Array.toList_append]
  have e1 : (Array.map (fun b : UInt8 => Value.int .u8 b.toNat) (btext l).data).toList = strCells (btext l) := by simp [strCells]
  rw [e1, List.take_append_of_le_length (by rw [strCells_btext_length]; omega), List.take_of_length_le (by rw [strCells_btext_length]; omega)]

/-- Its text again. -/
theorem BytesAt.text {w : World} {g cap : Nat} {l : List UInt8} (h : BytesAt w g cap l) : (convert 88 9 (.slice (some ⟨g, 0, none⟩) l.length cap)).run Try.prog w = .ok (.string (btext l)) w :=
  run_convert_bytes_back (P := Try.prog) w 88 9 5 ⟨g, 0, none⟩ cap l Try.underlying88 Try.underlying5 Try.underlying9 (fun j hj => h.cells j _ (strCells_get l j hj))

theorem store_beside (P : Program) (g o : Nat) (t : TypeId) (fz : Nat × Nat) : ∀ (vs : List Value) (i : Nat) (cur : Array Value) (w : World), w.heap[g]? = some (.cells cur t fz) → (fz.2 = 0 ∨ cur.size ≤ fz.1) → o + i + vs.length ≤ cur.size → (∀ v ∈ vs, v.oneCell' = true) →
    (storeCells ⟨g, o, none⟩ vs i).run P w = .ok () (w.setRow g (cur.toList.take (o + i) ++ vs ++ cur.toList.drop (o + i + vs.length)).toArray)
  | [], i, cur, w, hg, _, _, _ => by
    simp only [storeCells, List.append_nil, List.length_nil, Nat.add_zero, List.take_append_drop, Array.toArray_toList]
    rw [setRow_self w g cur t fz hg]
    rfl
  | v :: rest, i, cur, w, hg, hfz, hl, h1 => by
    have hi : o + i < cur.size := by simp at hl; omega
    have hcell : w.cell? ⟨g, o + i, none⟩ = some cur[o + i] := by simp [World.cell?, hg, hi]
    have hfro : w.frozen? ⟨g, o + i, none⟩ = false := by
      obtain ⟨lo, hi'⟩ := fz
      simp only [World.frozen?, hg, Bool.and_eq_false_iff, decide_eq_false_iff_not]
      simp only at hfz
      omega
    have hst : (store ((⟨g, o, none⟩ : Addr).add i) v).run P w = .ok () (w.setRow g (cur.setIfInBounds (o + i) v)) := by
      rw [Lib.add_plain, run_store P w _ v _ (h1 v (by simp)), hcell]
      simp [hfro, setCell_eq_setRow w g (o + i) cur t fz v hg]
    have ih := store_beside P g o t fz rest (i + 1) (cur.setIfInBounds (o + i) v) (w.setRow g (cur.setIfInBounds (o + i) v)) (setRow_heap w g cur _ t _ hg) (by simpa using hfz) (by simp at hl ⊢; omega) (fun x hx => h1 x (by simp [hx]))
    simp only [storeCells, Sem.run_bind, hst, Result.andThen_ok, ih, setRow_setRow]
    congr 3
    have e := list_seg_step cur.toList (o + i) v rest (by simp at hl ⊢; omega)
    simpa [Array.toList_setIfInBounds, Nat.add_assoc] using e

theorem u8_info : (Try.prog.info? 5).map (fun i => (i.zero, i.size, i.bytes)) = some (some (.int .u8 0), 1, 1) := by kernel_rfl

/-- append of a text. -/
theorem BytesAt.append {w : World} {g cap : Nat} {l : List UInt8} (h : BytesAt w g cap l) (s : List UInt8) (ty : TypeId) (hl : l.length + s.length ≤ 140737488355328) :
    ∃ g' cap' w', (Builtin.append_ #[88, 9] ty #[.slice (some ⟨g, 0, none⟩) l.length cap, .string (btext s)]).run Try.prog w = .ok (.slice (some ⟨g', 0, none⟩) (l ++ s).length cap') w' ∧
      BytesAt w' g' cap' (l ++ s) ∧ w.grownBy w' (some g) ∧ (g' = g ∨ g' = w.heap.size) := by
  obtain ⟨i0, hi, hz0, hz1, hz2⟩ := info_parts u8_info
  obtain ⟨cur, fz, h1, h2, h3, h4, h5, h6⟩ := h.row
  have hcs : strCells (btext l) ++ strCells (btext s) = strCells (btext (l ++ s)) := by simp [strCells]
  by_cases hroom : l.length + s.length ≤ cap
  · have hst := store_beside Try.prog g l.length 5 fz (strCells (btext s)) 0 cur w h1 (by rw [h3]; exact h2) (by rw [strCells_btext_length, h3]; omega) (strCells_oneCell _)
    have hf := run_firstCells_string (P := Try.prog) w 1 (btext s)
    rw [btext_size] at hf
    simp only [Nat.add_zero, strCells_btext_length] at hst
    refine ⟨g, cap, w.setRow g (cur.toList.take l.length ++ strCells (btext s) ++ cur.toList.drop (l.length + s.length)).toArray, ?_, ⟨_, fz, setRow_heap w g cur _ _ _ h1, h2, ?_, by rw [List.length_append]; exact hroom, h5, ?_⟩, ⟨rfl, rfl, rfl, by simp, fun k _ hk => setRow_other w g k _ (fun e => hk (by rw [e]))⟩, Or.inl rfl⟩
    · rw [List.length_append]
      simp [Builtin.append_, run_underlying Try.underlying88, run_underlying Try.underlying9, sizeOf, typeInfo, hi, hz1, Builtin.lenOf, btext_size, hroom, hf, Addr.add_lit, hst]
    · simp only [List.size_toArray, List.length_append, List.length_take, List.length_drop, Array.length_toList, strCells_btext_length]
      omega
    · rw [h6, hcs]
      exact List.take_left' (by rw [strCells_btext_length])
  · have hr := run_append_grow_string (P := Try.prog) w 88 9 ty 5 i0 (.int .u8 0) Try.underlying88 Try.underlying9 hi hz0 ⟨g, 0, none⟩ l.length cap (strCells (btext l)) (by rw [hz1, strCells_btext_length, Nat.mul_one]) h.cells (btext s) (by rw [btext_size]; omega) (by rw [btext_size]; omega) (by rw [hz2, btext_size]; exact growslice_fits (by omega) (by omega))
    rw [btext_size] at hr
    have hge := grownCap_ge w (l.length + s.length) cap 5
    have hcm2 : grownCap w (l.length + s.length) cap 5 ≤ maxLen := grownCap_le_maxLen w (l.length + s.length) cap 5 (by unfold maxLen; omega)
    refine ⟨w.heap.size, _, _, by rw [List.length_append]; exact hr, ⟨_, (0, 0), heap_alloc_new w.drew _, Or.inl rfl, ?_, by rw [List.length_append]; exact hge, hcm2, ?_⟩, ⟨rfl, rfl, rfl, by simp, fun k hk _ => heap_alloc_old w.drew _ hk⟩, Or.inr rfl⟩
    · have hz1 : (Value.int IntKind.u8 0).cells.size = 1 := rfl
      simp only [Array.size_append, List.size_toArray, size_zeroCells, hz1, strCells_btext_length]
      omega
    · simp only [Array.toList_append, List.append_assoc]
      rw [← List.append_assoc, hcs]
      exact List.take_left' (by rw [strCells_btext_length])
end Go.Proofs.Ytdplffhieekfaaa
