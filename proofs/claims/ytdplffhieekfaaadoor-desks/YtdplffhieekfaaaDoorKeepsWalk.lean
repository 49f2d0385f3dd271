/-
  stampslaw's owner writes a list over, and keeps it: the walk.
  Conditions: the law's own rows, apart from one another.
-/
import Derived.Test.YtdplffhieekfaaaDoorLaws
namespace Go.Proofs.YtdplffhieekfaaaDoor
open Go.RowKit

theorem all_replicate {ys : List Value} {n : Nat} {v : Value} (hl : ys.length = n) (h : ∀ j, j < n → ys[j]? = some v) : ys = List.replicate n v := by
  apply List.ext_getElem?
  intro j
  by_cases hj : j < n
  · rw [h j hj, List.getElem?_replicate]; simp [hj]
  · rw [List.getElem?_eq_none (by omega), List.getElem?_eq_none (by simp; omega)]

theorem put_new (w : World) (p : Addr) (v u : Value) (T : TypeId) : ((w.setCell p v).alloc (.cells #[u] T)).cell? ((⟨w.heap.size, 0, none⟩ : Addr).add 0) = some u := by
  have h := (cell_alloc_new (w.setCell p v) #[u] T 0).1
  have hs : (w.setCell p v).heap.size = w.heap.size := by simp [World.setCell]
  rw [hs] at h
  rw [addr_add0]
  exact h

/-- The start of the second loop. -/
theorem KS.start {w W : World} {B : Nat} {lv mv l : Value} {Ls Ms : List Value} {n : Nat} {c x : Int} (h : RowsAt w B lv mv Ls.length Ls Ms c) (hm : Ms.length = Ls.length)
    (a1 : ∀ g, l.ownBlock = some g → lv.ownBlock ≠ some g ∧ mv.ownBlock ≠ some g) (hO : OverAt (w.setCell ⟨B, 4, none⟩ (.int .u64 (c + 1))) W B l n n x) : KS w B lv mv l x (c + 1) W lv mv l Ls Ms n [] := by
  obtain ⟨ys, o1, o2⟩ := hO.own
  have hk0 : Keep (fun i => i = B ∨ l.ownBlock = some i) w (w.setCell ⟨B, 4, none⟩ (.int .u64 (c + 1))) := (Keep.refl _ w).setCell (p := ⟨B, 4, none⟩) (fun _ => Or.inl rfl) _
  have hk1 : Keep (fun i => i = B ∨ l.ownBlock = some i) w W := hk0.trans' hO.keep (fun i _ e => Or.inr e)
  have hs0 : (w.setCell ⟨B, 4, none⟩ (.int .u64 (c + 1))).heap.size = w.heap.size := by simp [World.setCell]
  have hBlt : B < w.heap.size := block_lt_of_cell h.c2
  have il := owns_in h.lists
  have im := owns_in h.marks
  have hBn : l.ownBlock ≠ some B := fun e => by have := (owns_in o1 B e).1; omega
  have hB : W.heap[B]? = (w.setCell ⟨B, 4, none⟩ (.int .u64 (c + 1))).heap[B]? := hO.keep.block B (by omega) hBn
  have cB : ∀ o, W.cell? ⟨B, o, none⟩ = (w.setCell ⟨B, 4, none⟩ (.int .u64 (c + 1))).cell? ⟨B, o, none⟩ := fun o => World.cell?_of_block hB
  have cO : ∀ o, o ≠ 4 → W.cell? ⟨B, o, none⟩ = w.cell? ⟨B, o, none⟩ := fun o hne => by rw [cB o, World.cell?_setCell_other _ _ _ _ (by simp <;> omega)]
  have hlen : ys.length = n := by have := o1.1; omega
  refine ⟨hk1.mono (fun i _ e => e.elim Or.inl (fun e => Or.inr (Or.inr (Or.inr e)))), fun o ho => cO o (by omega), (cO 2 (by omega)).trans h.c2, (cO 3 (by omega)).trans h.c3, (cB 4).trans (World.cell?_setCell_same _ _ _ h.c4), fun o => ?_, ?_, ?_, ?_, h.apart, fun g hg => (a1 g hg).1, fun g hg => (a1 g hg).2, fun g hg => Or.inl hg, fun g hg => Or.inl hg, fun g hg => Or.inl hg, fun v hv => absurd hv (by simp)⟩
  · rw [World.frozen?_of_block (w := w.setCell ⟨B, 4, none⟩ (.int .u64 (c + 1))) (a := ⟨B, o, none⟩) hB, World.frozen?_setCell]; exact h.fz o
  · exact owns_stay h.lists (fun z hz => hk1.block z (il z hz).2 (fun e => e.elim (fun e => by have := (il z hz).1; omega) (fun e => (a1 z e).1 hz)))
  · rw [hm]; exact owns_stay h.marks (fun z hz => hk1.block z (im z hz).2 (fun e => e.elim (fun e => by have := (im z hz).1; omega) (fun e => (a1 z e).2 hz)))
  · rw [← all_replicate hlen o2]; exact o1

set_option maxRecDepth 100000 in
set_option maxHeartbeats 4000000 in
theorem keeps_any (w : World) (B : Nat) (lv mv l : Value) (n : Nat) (Ls Ms xs : List Value) (c : Int) (h : RowsAt w B lv mv Ls.length Ls Ms c) (hm : Ms.length = Ls.length) (hl : w.ownsRow (B + 1) 25 1 l n xs) (hn : n ≤ 10000) (c0 : 0 ≤ c) (c1 : c < 9223372036854775000)
    (a1 : ∀ g, l.ownBlock = some g → lv.ownBlock ≠ some g ∧ mv.ownBlock ≠ some g) (hq : Ls.length ≤ 9000000000000) :
    Calls Tryd.prog 50 #[.pointer (some ⟨B, 0, none⟩), l] w fun e w' => e = .returned (.tuple #[]) ∧
      ∃ lv' mv' lc N4, N4.length = 4 ∧ KS w B lv mv l (9223372036854775808 + (c + 1)) (c + 1) w' lv' mv' lc (Ls ++ N4) (Ms ++ List.replicate 4 (.int .u64 (9223372036854775808 + (c + 1)))) (n + 4) N4 := by
  obtain ⟨i0, hi, hz0, hz1, hz2⟩ := info_parts u64_info
  obtain ⟨i1, hi', hz0', hz1', hz2'⟩ := info_parts bytes_info
  have c4 := h.c4
  have z4 := h.fz 4
  obtain ⟨la, lcap, rfl⟩ := owns_slice hl
  have hlen := fun w ty => len_row n lcap la w ty
  have hh : Hid _ := h
  have hl' : Hid _ := hl
  have ha : Hid _ := a1
  clear h hl a1
  go_enter Tryd.func50, Tryd.ntmps50
  go_wp2_with fail
  have hW1 : Hid (OverAt (w.setCell ⟨B, 4, none⟩ (.int .u64 (c + 1))) (w.setCell ⟨B, 4, none⟩ (.int .u64 (c + 1))) B (.slice la n lcap) n 0 (9223372036854775808 + (c + 1))) :=
    ⟨Keep.refl _ _, xs, owns_keep (S := fun i => i = B) hl'.out ((Keep.refl (fun i => i = B) w).setCell (p := ⟨B, 4, none⟩) (fun _ => rfl) _) (fun i hi e => by omega), fun j hj => absurd hj (by omega)⟩
  generalize hx : (9223372036854775808 + (c + 1) : Int) = x at *
  have hst : Hid (∀ W, OverAt (w.setCell ⟨B, 4, none⟩ (.int .u64 (c + 1))) W B (.slice la n lcap) n n x → KS w B lv mv (.slice la n lcap) x (c + 1) W lv mv (.slice la n lcap) Ls Ms n []) := fun W hO => KS.start hh.out hm ha.out hO
  generalize hw1 : w.setCell ⟨B, 4, none⟩ (.int .u64 (c + 1)) = w1 at *
  have hx' : Hid _ := hx
  have hw1' : Hid _ := hw1
  clear hx hw1 c4 z4
  go_loopw [5] (fun i W => ∃ k : Nat, k ≤ n ∧ i = .int .i64 k ∧ Hid (OverAt w1 W B (.slice la n lcap) n k x)) (fun i _ => n - (intOf i).toNat)
  case atStart => exact ⟨0, by omega, rfl, hW1⟩
  case round =>
    obtain ⟨k, hk, rfl, hO⟩ := hrel
    by_cases hlt : k < n
    · obtain ⟨ys, o1, _⟩ := hO.out.own
      obtain ⟨g, rfl⟩ : ∃ g, la = some ⟨g, 0, none⟩ := by
        rcases o1.2 with ⟨_, h0⟩ | ⟨g, _, _, he, _⟩
        · omega
        · simp only [Value.slice.injEq] at he; exact ⟨g, he.1⟩
      obtain ⟨⟨v, hv⟩, hz⟩ := owns_frozen o1 k hlt
      clear o1 hW1 hst
      have hO2 : Hid _ := hO.out.step hlt
      go_wp2
      exact ⟨⟨k + 1, by omega, by go_num, hO2⟩, by simp [intOf]; omega⟩
    · have hkn : k = n := by omega
      subst hkn
      clear hlt
      have hK0 : Hid _ := hst.out _ hO.out
      clear hst hO hW1
      go_wp2_with fail
      go_loopw [1, 6] (fun lc i W => ∃ j : Nat, j ≤ 4 ∧ i = .int .i64 j ∧ Hid (∃ lv' mv' N4, N4.length = j ∧ KS w B lv mv (.slice la k lcap) x (c + 1) W lv' mv' lc (Ls ++ N4) (Ms ++ List.replicate j (.int .u64 x)) (k + j) N4)) (fun _ i _ => 4 - (intOf i).toNat)
      case atStart => exact ⟨0, by omega, rfl, lv, mv, [], rfl, by simpa using hK0.out⟩
      case round =>
        obtain ⟨j, hj, rfl, hJ⟩ := hrel
        by_cases hlt : j < 4
        · obtain ⟨lv', mv', N4, hN, hKS⟩ := hJ.out
          clear hJ
          obtain ⟨ca, ccap, rfl⟩ := owns_slice hKS.cur
          have d2 := hKS.c2
          have f2 := hKS.fz 2
          obtain ⟨Lr, hLr⟩ : ∃ Lr, Lr = Ls ++ N4 := ⟨_, rfl⟩
          obtain ⟨Mr, hMr⟩ : ∃ Mr, Mr = Ms ++ List.replicate j (Value.int .u64 x) := ⟨_, rfl⟩
          rw [← hLr, ← hMr] at hKS
          have lL : Lr.length = Ls.length + j := by rw [hLr, List.length_append, hN]
          have lM : Mr.length = Ls.length + j := by rw [hMr, List.length_append, List.length_replicate, hm]
          have hown : Hid (wr.ownsRow (B + 1) 40 1 lv' Lr.length Lr) := hKS.lists
          have hsz : Hid (B + 1 ≤ wr.heap.size) := block_lt_of_cell hKS.c2
          have hKS' : Hid _ := hKS
          have lL' : Hid _ := lL
          have lM' : Hid _ := lM
          have hLr' : Hid _ := hLr
          have hMr' : Hid _ := hMr
          clear hKS lL lM hLr hMr
          go_wp2_with (first
            | (at_builtin; refine wpList_append_keeps _ rfl _ _ 39 rfl (B + 1) 40 i1 (.slice none 0 0) 1 24 Tryd.underlying39 hi' hz0' hz1' hz2' rfl (by decide) _ _ _ rfl (hown.out.alloc _) ⟨wr.heap.size, 0, none⟩ 1 1 [.slice ca (k + j) ccap] rfl rfl ?c1 ?c2 (by decide) ?c3 ?c4 ?c5 ?_)
            | go_in)
          case c1 =>
            intro j u hj
            match j, hj with
            | 0, hj => simp at hj; subst hj; simp [Addr.add]
          case c2 => intro u hu; simp at hu; subst hu; rfl
          case c3 => rw [lL'.out]; unfold maxLen; omega
          case c4 => rw [lL'.out]; omega
          case c5 => have := hsz.out; simp; omega
          · intro lv2 w2 ho2 hg2 hc2 hl2
            have sz0 := hsz.out
            have sB2 : w2.heap[B]? = wr.heap[B]? := by
              have e1 := hg2.block B (by simp; omega) (fun e => by have := (owns_in hKS'.out.lists B e.symm).1; omega)
              rw [e1]; exact heap_alloc_old _ _ (by omega)
            have d2 : w2.cell? ⟨B, 2, none⟩ = some lv' := (World.cell?_of_block (w := wr) sB2).trans d2
            have d3 : w2.cell? ⟨B, 3, none⟩ = some mv' := (World.cell?_of_block (w := wr) sB2).trans hKS'.out.c3
            have f2 : w2.frozen? ⟨B, 2, none⟩ = false := (World.frozen?_of_block (w := wr) (a := ⟨B, 2, none⟩) sB2).trans (hKS'.out.fz 2)
            have f3 : w2.frozen? ⟨B, 3, none⟩ = false := (World.frozen?_of_block (w := wr) (a := ⟨B, 3, none⟩) sB2).trans (hKS'.out.fz 3)
            have hK2 : Hid (KS w B lv mv (.slice la k lcap) x (c + 1) (w2.setCell ⟨B, 2, none⟩ lv2) lv2 mv' (.slice ca (k + j) ccap) (Lr ++ [.slice ca (k + j) ccap]) Mr (k + j) (N4 ++ [.slice ca (k + j) ccap])) := hKS'.out.stepL ho2 hg2 (by rw [World.size_alloc]; exact hl2)
            have hown2 : Hid ((w2.setCell ⟨B, 2, none⟩ lv2).ownsRow (B + 1) 25 1 mv' Mr.length Mr) := hK2.out.marks
            have hsz2 : Hid (B + 1 ≤ w2.heap.size) := block_lt_of_cell d2
            obtain ⟨a2, cp2, rfl⟩ := owns_slice ho2
            clear ho2 hg2 hc2 hl2 hKS' hown hsz sz0 sB2
            go_wp2_with (first
              | (at_builtin; refine wpList_append_keeps _ rfl _ _ 40 rfl (B + 1) 25 i0 (.int .u64 0) 1 8 Tryd.underlying40 hi hz0 hz1 hz2 rfl (by decide) _ _ _ rfl (hown2.out.alloc _) _ 1 1 [.int .u64 x] rfl rfl ?c1 ?c2 (by decide) ?c3 ?c4 ?c5 ?_)
              | go_in)
            case c1 =>
              intro j u hj
              match j, hj with
              | 0, hj => simp at hj; subst hj; exact put_new w2 _ _ _ _
            case c2 => intro u hu; simp at hu; subst hu; rfl
            case c3 => rw [lM'.out]; unfold maxLen; omega
            case c4 => rw [lM'.out]; omega
            case c5 => have := hsz2.out; simp [World.setCell]; omega
            · intro mv3 w3 ho3 hg3 hc3 hl3
              have sz2 := hsz2.out
              have hK3 : Hid (KS w B lv mv (.slice la k lcap) x (c + 1) (w3.setCell ⟨B, 3, none⟩ mv3) (.slice a2 (Lr.length + 1) cp2) mv3 (.slice ca (k + j) ccap) (Lr ++ [.slice ca (k + j) ccap]) (Mr ++ [.int .u64 x]) (k + j) (N4 ++ [.slice ca (k + j) ccap])) := hK2.out.stepM ho3 hg3 (by simpa [World.setCell] using hl3)
              have sB3 : w3.heap[B]? = (w2.setCell ⟨B, 2, none⟩ (.slice a2 (Lr.length + 1) cp2)).heap[B]? := by
                have e1 := hg3.block B (by simp [World.setCell]; omega) (fun e => by have := (owns_in hK2.out.marks B e.symm).1; omega)
                rw [e1]; exact heap_alloc_old _ _ (by simp [World.setCell]; omega)
              have d3 : w3.cell? ⟨B, 3, none⟩ = some mv' := (World.cell?_of_block (w := w2.setCell ⟨B, 2, none⟩ (.slice a2 (Lr.length + 1) cp2)) sB3).trans hK2.out.c3
              have f3 : w3.frozen? ⟨B, 3, none⟩ = false := (World.frozen?_of_block (w := w2.setCell ⟨B, 2, none⟩ (.slice a2 (Lr.length + 1) cp2)) (a := ⟨B, 3, none⟩) sB3).trans (hK2.out.fz 3)
              have hown3 : Hid ((w3.setCell ⟨B, 3, none⟩ mv3).ownsRow (B + 1) 25 1 (.slice ca (k + j) ccap) (k + j) (List.replicate (k + j) (.int .u64 x))) := hK3.out.cur
              have hsz3 : Hid (B + 1 ≤ w3.heap.size) := block_lt_of_cell d3
              obtain ⟨a3, cp3, rfl⟩ := owns_slice ho3
              clear ho3 hg3 hc3 hl3 hown2 hsz2 sz2 sB3 hK2 d2 f2
              go_wp2_with (first
                | (at_builtin; refine wpList_append_keeps _ rfl _ _ 40 rfl (B + 1) 25 i0 (.int .u64 0) 1 8 Tryd.underlying40 hi hz0 hz1 hz2 rfl (by decide) _ _ _ rfl (hown3.out.alloc _) _ 1 1 [.int .u64 x] rfl rfl ?c1 ?c2 (by decide) ?c3 ?c4 ?c5 ?_)
                | go_in)
              case c1 =>
                intro j u hj
                match j, hj with
                | 0, hj => simp at hj; subst hj; exact put_new w3 _ _ _ _
              case c2 => intro u hu; simp at hu; subst hu; rfl
              case c3 => unfold maxLen; omega
              case c4 => omega
              case c5 => have := hsz3.out; simp [World.setCell]; omega
              · intro lc4 w4 ho4 hg4 hc4 hl4
                have hK4 : Hid (∃ lv' mv' N4, N4.length = j + 1 ∧ KS w B lv mv (.slice la k lcap) x (c + 1) w4 lv' mv' lc4 (Ls ++ N4) (Ms ++ List.replicate (j + 1) (.int .u64 x)) (k + (j + 1)) N4) := by
                  have := hK3.out.stepC ho4 hg4 (fun g i h1 h2 => hc4 g i h1 (by omega)) (by simpa [World.setCell] using hl4)
                  have e1 : Lr ++ [Value.slice ca (k + j) ccap] = Ls ++ (N4 ++ [Value.slice ca (k + j) ccap]) := by rw [hLr'.out, List.append_assoc]
                  have e2 : Mr ++ [Value.int .u64 x] = Ms ++ List.replicate (j + 1) (Value.int .u64 x) := by rw [hMr'.out, List.append_assoc, ← List.replicate_succ']
                  rw [e1, e2] at this
                  exact ⟨_, _, N4 ++ [.slice ca (k + j) ccap], by simp [hN], this⟩
                obtain ⟨a4, cp4, rfl⟩ := owns_slice ho4
                clear ho4 hg4 hc4 hl4 hown3 hsz3 hK3
                go_wp2
                exact ⟨⟨j + 1, by omega, by go_num, hK4⟩, by simp [intOf]; omega⟩
        · have hj4 : j = 4 := by omega
          subst hj4
          go_wp2
          go_end0
          obtain ⟨lv', mv', N4, hN, hKS⟩ := hJ.out
          rw [hx'.out]
          exact ⟨rfl, lv', mv', _, N4, hN, hKS⟩
end Go.Proofs.YtdplffhieekfaaaDoor
