/-
  stampslaw.gives, NewDesk.
  Conditions: the law's world is in memory.
-/
import Derived.Test.YtdplffhieekfaaaDoorWorlds
namespace Go.Proofs.YtdplffhieekfaaaDoor
open Go.RowKit

theorem deskpair_info : (Tryd.prog.info? 86).map (fun i => (i.zero, i.size, i.bytes)) = some (some (.agg #[.pointer none, .pointer none]), 2, 16) := by kernel_rfl

set_option maxRecDepth 100000 in
set_option maxHeartbeats 2000000 in
theorem gives_refused {t : Nat} {W : World} {L : LB} {sd : Nat → Dk} {Ls Ms : List Value} {c : Int} (hI : LawIn t W L sd Ls Ms c) (on a b n : Int) (s : ByteArray) (l0 l1 l2 er : Int)
    (h1 : ∀ w, Calls Tryd.prog 16 #[.agg #[.int .i64 l0, .int .i64 l1, .int .i64 l2], .int .i64 a] w fun e w' => e = .returned (.tuple #[.pointer none, .int .i64 er]) ∧ Below w.heap.size w w')
    (h2 : ∀ w, Calls Tryd.prog 45 #[.agg #[.int .i64 l0, .int .i64 l1, .int .i64 l2], .int .i64 a] w fun e w' => e = .returned (.tuple #[.pointer none, .int .i64 er]) ∧ Below w.heap.size w w') :
    Calls Tryd.prog 25 #[.pointer (some ⟨L.B, 0, none⟩), .agg #[.int .i64 5, .int .i64 on, .int .i64 a, .int .i64 b, .int .u64 n, .string s, .int .i64 l0, .int .i64 l1, .int .i64 l2]] W fun e W' => e = .returned (.bool true) ∧ Stepped t W W' L := by
  replace hI : Hid _ := hI
  go_enter Tryd.func25, Tryd.ntmps25
  go_wp2_with fail
  refine (h1 _).mono ?_
  rintro e w1 ⟨rfl, hb1⟩
  obtain ⟨hc, hf⟩ := bcell hb1
  have b1 : Hid (Below W.heap.size W w1) := ((Below.refl _ W).alloc (Nat.le_refl _) _).trans (hb1.mono (by simp))
  clear h1 hb1
  go_wp2_with fail
  refine (h2 _).mono ?_
  rintro e w2 ⟨rfl, hb2⟩
  have b2 : Hid (Below W.heap.size W w2) := b1.out.trans (hb2.mono b1.out.size)
  clear h2 hb2 hc hf
  go_wp2
  go_ret
  exact ⟨rfl, hI.out.idle b2.out⟩

set_option maxRecDepth 100000 in
set_option maxHeartbeats 4000000 in
theorem gives_made {t : Nat} {W : World} {L : LB} {sd : Nat → Dk} {Ls Ms : List Value} {c : Int} (hI : LawIn t W L sd Ls Ms c) (on a b n : Int) (s : ByteArray) (l0 l1 l2 : Int) (hl : Lease l0 l1 l2) (b0 : 0 ≤ a) (b1 : a ≤ 1000) :
    Calls Tryd.prog 25 #[.pointer (some ⟨L.B, 0, none⟩), .agg #[.int .i64 5, .int .i64 on, .int .i64 a, .int .i64 b, .int .u64 n, .string s, .int .i64 l0, .int .i64 l1, .int .i64 l2]] W fun e W' => e = .returned (.bool true) ∧ Stepped t W W' L := by
  obtain ⟨i0, hi, hz0, hz1, hz2⟩ := info_parts deskpair_info
  have h1 := fun w => newDesk_yes l0 l1 l2 a w hl b0 b1
  have h2 := fun w => rnewDesk_yes l0 l1 l2 a w hl b0 b1
  have rD := hI.dw.but.rD id
  obtain ⟨va, vcap, hvD⟩ := owns_slice rD
  have h12 := hI.dw.n12
  have hBlt : L.B < W.heap.size := (hI.dw.base .own _ rfl).2
  have x0 := hI.dw.but.x0 id
  have z0 := hI.dw.but.xz id 0
  rw [hvD] at x0
  replace hI : Hid _ := hI
  replace rD : Hid _ := rD
  replace hvD : Hid _ := hvD
  clear hl
  go_enter Tryd.func25, Tryd.ntmps25
  go_wp2_with fail
  refine (h1 _).mono ?_
  rintro e w1 ⟨k, hk, rfl, hd1, hb1⟩
  obtain ⟨hc, hf⟩ := bcell hb1
  have c1 : Hid (Below W.heap.size W w1) := ((Below.refl _ W).alloc (Nat.le_refl _) _).trans (hb1.mono (by simp))
  replace hd1 : Hid _ := hd1
  replace hk : Hid (W.heap.size ≤ k) := by simp at hk; have := hk; exact (by omega : W.heap.size ≤ k)
  clear h1 hb1
  go_wp2_with fail
  refine (h2 _).mono ?_
  rintro e w2 ⟨r, hr, hr2, rfl, hf2, hb2⟩
  have c2 : Hid (Below W.heap.size W w2) := c1.out.trans (hb2.mono c1.out.size)
  have hd2 : Hid (DeskAt w2 k none (newDk l0 l1 l2 a)) := hd1.out.below hb2
  have hkr : Hid (k ≠ r) := by
    obtain ⟨_, made, _, hcl, _⟩ := hd1.out
    have h3 : k < w1.heap.size := block_lt_of_cell hcl.c0
    exact fun e => by subst e; omega
  have hrr : Hid (W.heap.size ≤ r) := Nat.le_trans c1.out.size hr
  have x2 : w2.cell? ⟨L.B, 0, none⟩ = some (.slice va L.n vcap) := kept_cell c2.out hBlt x0
  have z2 : w2.frozen? ⟨L.B, 0, none⟩ = false := by rw [c2.out.frozen (p := ⟨L.B, 0, none⟩) hBlt]; exact z0
  have rD2 : Hid (w2.ownsRow (L.B + 1) 86 2 L.vD L.n (pairCells L.dk L.rf L.n)) := owns_stay rD.out (fun x hx => c2.out.block x (owns_in rD.out x hx).2)
  replace hf2 : Hid _ := hf2
  have hBlt2 : Hid (L.B < w2.heap.size) := Nat.lt_of_lt_of_le hBlt c2.out.size
  clear h2 hb2 hc hf hr hr2 x0 z0 rD c1 hd1
  by_cases hlt : L.n < 12
  · have hlt' : decide ((L.n : Int) < 12) = true := by rw [decide_eq_true_iff]; omega
    rw [hvD.out] at rD2
    go_wp2_with (first
      | (at_builtin; refine wpList_append_keeps _ rfl _ _ 37 rfl (L.B + 1) 86 i0 (.agg #[.pointer none, .pointer none]) 2 16 Tryd.underlying37 hi hz0 hz1 hz2 rfl (by decide) _ _ _ rfl (rD2.out.alloc _) ⟨w2.heap.size, 0, none⟩ 1 1 [.pointer (some ⟨k, 0, none⟩), .pointer (some ⟨r, 0, none⟩)] rfl rfl ?c1 ?c2 (by decide) ?c3 ?c4 ?c5 ?_)
      | go_in)
    case c1 =>
      intro j u hj
      rw [addr_add0]
      have e := (cell_alloc_new w2 #[.pointer (some ⟨k, 0, none⟩), .pointer (some ⟨r, 0, none⟩)] 86 j).1
      refine Eq.trans ?_ (e.trans ?_)
      · rfl
      · rw [← hj]; simp
    case c2 => intro u hu; simp at hu; rcases hu with rfl | rfl <;> rfl
    case c3 => unfold maxLen; omega
    case c4 => omega
    case c5 => have := hBlt2.out; simp; omega
    · intro v3 w3 ho3 hg3 hc3 hl3
      have hB3 : w3.heap[L.B]? = w2.heap[L.B]? := by
        have hB2 := hBlt2.out
        have e1 := hg3.block L.B (by simp; omega) (fun e => by have := (owns_in rD2.out L.B e.symm).1; omega)
        rw [e1]; exact heap_alloc_old _ _ hB2
      have x3 : w3.cell? ⟨L.B, 0, none⟩ = some (.slice va L.n vcap) := (World.cell?_of_block (w := w2) hB3).trans x2
      have z3 : w3.frozen? ⟨L.B, 0, none⟩ = false := (World.frozen?_of_block (w := w2) (a := ⟨L.B, 0, none⟩) hB3).trans z2
      rw [← hvD.out] at hg3 hl3
      have hfin : Hid (Stepped t W (w3.setCell ⟨L.B, 0, none⟩ v3) L) := by
        obtain ⟨hw, hwent⟩ := hI.out.dw.more c2.out hlt hk.out hrr.out hkr.out hd2.out hf2.out (fun _ => rfl) ho3 hg3 (by rw [World.size_alloc]; exact hl3)
        refine ⟨_, _, _, _, _, ⟨hw, fun i hi => ?_, by have := hI.out.len; omega, hI.out.c0, by have := hI.out.c1; omega⟩, hwent⟩
        have hi' : i < L.n + 1 := hi
        by_cases e : i = L.n
        · subst e; rw [put_same]; show (0 : Int) ≤ 0 ∧ (0 : Int) ≤ _; omega
        · rw [put_other _ _ _ e]; have := hI.out.given i (by omega); omega
      obtain ⟨a3, cp3, rfl⟩ := owns_slice ho3
      clear ho3 hg3 hc3 hl3 rD2 x2 z2 hB3
      go_wp2
      go_ret
      exact ⟨rfl, hfin.out⟩
  · have hlt' : decide ((L.n : Int) < 12) = false := by rw [decide_eq_false_iff_not]; omega
    go_wp2
    go_ret
    exact ⟨rfl, hI.out.idle c2.out⟩

theorem gives_new {t : Nat} {W : World} {L : LB} {sd : Nat → Dk} {Ls Ms : List Value} {c : Int} (hI : LawIn t W L sd Ls Ms c) (on a b n : Int) (s : ByteArray) (l0 l1 l2 : Int) :
    Calls Tryd.prog 25 #[.pointer (some ⟨L.B, 0, none⟩), .agg #[.int .i64 5, .int .i64 on, .int .i64 a, .int .i64 b, .int .u64 n, .string s, .int .i64 l0, .int .i64 l1, .int .i64 l2]] W fun e W' => e = .returned (.bool true) ∧ Stepped t W W' L := by
  by_cases hl : Lease l0 l1 l2
  · by_cases hb : a < 0 ∨ 1000 < a
    · exact gives_refused hI on a b n s l0 l1 l2 6 (fun w => newDesk_span l0 l1 l2 a w hl hb) (fun w => rnewDesk_span l0 l1 l2 a w hl hb)
    · exact gives_made hI on a b n s l0 l1 l2 hl (by omega) (by omega)
  · exact gives_refused hI on a b n s l0 l1 l2 4 (fun w => newDesk_lease l0 l1 l2 a w hl) (fun w => rnewDesk_lease l0 l1 l2 a w hl)
end Go.Proofs.YtdplffhieekfaaaDoor
