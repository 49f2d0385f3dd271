/-
  An office in memory; NewOffice, Journal.
-/
import Derived.Test.YtdplffhieekfaaaRecMore
import Derived.Test.YtdplffhieekfaaaJBytes
namespace Go.Proofs.Ytdplffhieekfaaa
open Go.RowKit Go.Maps Go.Lib

/-- An office in memory: its own block, the map's, the row of its journal's bytes; its span, its records. -/
structure OfficeAt (w : World) (b m g cap span : Nat) (rs : List (Nat × Nat)) : Prop where
  c0 : w.cell? ⟨b, 0, none⟩ = some (.int .i64 span)
  c1 : w.cell? ⟨b, 1, none⟩ = some (.map (some m))
  c2 : w.cell? ⟨b, 2, none⟩ = some (.slice (some ⟨g, 0, none⟩) (jtext rs).length cap)
  fz : ∀ o, w.frozen? ⟨b, o, none⟩ = false
  fences : FenceMap w m rs.length (fenceOf rs)
  bytes : BytesAt w g cap (jtext rs)
  good : Good rs
  bg : b ≠ g
  bm : b ≠ m
  gm : g ≠ m
  s1 : 1 ≤ span
  s2 : span ≤ 1000000

theorem OfficeAt.lt {w : World} {b m g cap span : Nat} {rs : List (Nat × Nat)} (h : OfficeAt w b m g cap span rs) : b < w.heap.size ∧ m < w.heap.size ∧ g < w.heap.size :=
  ⟨block_lt_of_cell h.c0, h.fences.lt, h.bytes.lt⟩

/-- It stays while its three blocks do. -/
theorem OfficeAt.on {w w' : World} {b m g cap span : Nat} {rs : List (Nat × Nat)} (h : OfficeAt w b m g cap span rs) (hb : w'.heap[b]? = w.heap[b]?) (hm : w'.heap[m]? = w.heap[m]?) (hg : w'.heap[g]? = w.heap[g]?) : OfficeAt w' b m g cap span rs := by
  have hc : ∀ o, w'.cell? ⟨b, o, none⟩ = w.cell? ⟨b, o, none⟩ := fun o => World.cell?_of_block (w := w) hb
  exact ⟨(hc 0).trans h.c0, (hc 1).trans h.c1, (hc 2).trans h.c2, fun o => (World.frozen?_of_block (w := w) (a := ⟨b, o, none⟩) hb).trans (h.fz o), h.fences.on hm, h.bytes.on hg, h.good, h.bg, h.bm, h.gm, h.s1, h.s2⟩

/-- What NewOffice answers. -/
def OfficeNew (l : List UInt8) (span : Nat) (w w' : World) (e : Ending) : Prop :=
  (∃ (b m g cap : Nat) (rs : List (Nat × Nat)), e = .returned (.tuple #[.pointer (some ⟨b, 0, none⟩), .int .i64 0]) ∧ w.heap.size ≤ b ∧ w.heap.size ≤ m ∧ w.heap.size ≤ g ∧
      l.take (13 * (l.length / 13)) = jtext rs ∧ begins (l.drop (13 * (l.length / 13))) = true ∧ OfficeAt w' b m g cap span rs) ∨
  (e = .returned (.tuple #[.pointer none, .int .i64 2]) ∧ (begins (l.drop (13 * (l.length / 13))) = false ∨ ∀ rs, Good rs → l.take (13 * (l.length / 13)) ≠ jtext rs))

set_option maxRecDepth 100000 in
set_option maxHeartbeats 1000000 in
theorem newOffice_any (l : List UInt8) (span : Nat) (w : World) (h1 : 1 ≤ span) (h2 : span ≤ 1000000) (hl : l.length ≤ 140737488355328) :
    Calls Try.prog 17 #[.string (btext l), .int .i64 span] w fun e w' => OfficeNew l span w w' e ∧ Below w.heap.size w w' := by
  have hwh : (l.length : Int) - (l.length : Int) % 13 = ((13 * (l.length / 13) : Nat) : Int) := by omega
  have hd : (btext l).extract (13 * (l.length / 13)) l.length = btext (l.drop (13 * (l.length / 13))) := btext_drop l _
  have ht : (btext l).extract 0 (13 * (l.length / 13)) = btext (l.take (13 * (l.length / 13))) := btext_take l _
  have hbg := fun w => begins_any (l.drop (13 * (l.length / 13))) w (by rw [List.length_drop]; omega)
  have hlt : (l.take (13 * (l.length / 13))).length = 13 * (l.length / 13) := by rw [List.length_take]; omega
  have hrf := fun w => readFences_any (l.take (13 * (l.length / 13))) w (by rw [hlt]; omega) (by rw [hlt]; omega)
  rw [← hd] at hbg
  rw [← ht] at hrf
  replace hd : Hid _ := hd
  replace ht : Hid _ := ht
  replace hlt : Hid _ := hlt
  by_cases hb : begins (l.drop (13 * (l.length / 13))) = true
  · have hbH : Hid _ := hb
    rw [hb] at hbg
    clear hb
    go_enter Try.func17, Try.ntmps17
    go_wp2_with fail
    refine (hbg _).mono ?_
    rintro e w1 ⟨rfl, hb1⟩
    have hb1 : Hid _ := hb1
    clear hbg
    go_wp2_with fail
    refine (hrf _).mono ?_
    rintro e w2 ⟨hR, hb2⟩
    have hb2 : Hid _ := hb2
    clear hrf
    rcases hR with ⟨m, rs, he, hm, hj, hg, hf⟩ | ⟨he, hn⟩
    · subst he
      replace hj : Hid _ := hj
      have hg : Hid _ := hg
      have hf : Hid _ := hf
      have hm : Hid _ := hm
      obtain ⟨cap, w3, hcv, hby, hb3⟩ := bytes_made w2 (l.take (13 * (l.length / 13))) (by rw [hlt.out]; unfold maxLen; omega)
      rw [← ht.out, hlt.out] at hcv
      have hby : Hid _ := hby
      have hb3 : Hid _ := hb3
      go_wp2
      go_ret2
      have hc := fun o => cell_alloc_new w3 #[.int .i64 span, .map (some m), .slice (some ⟨w2.heap.size, 0, none⟩) (13 * (l.length / 13)) cap] 90 o
      have hlen : (jtext rs).length = 13 * (l.length / 13) := by rw [← hj.out]; exact hlt.out
      have s1 := hb1.out.size
      have s2 := hb2.out.size
      have s3 := hb3.out.size
      have hby' := hby.out
      rw [hj.out] at hby'
      have l1 := hf.out.lt
      have l2 := hby'.lt
      have hm' := hm.out
      refine ⟨Or.inl ⟨w3.heap.size, m, w2.heap.size, cap, rs, rfl, by omega, by omega, by omega, hj.out, hbH.out, ⟨(hc 0).1, (hc 1).1, by rw [hlen]; exact (hc 2).1, fun o => (hc o).2, ?_, ?_, hg.out, by omega, by omega, by omega, h1, h2⟩⟩, ?_⟩
      · exact (hf.out.on (hb3.out.block _ (by omega))).on (heap_alloc_old _ _ (by omega))
      · exact hby'.on (heap_alloc_old _ _ (by omega))
      · exact (hb1.out.trans ((hb2.out.trans (hb3.out.mono hb2.out.size)).mono hb1.out.size)).alloc (by omega) _
    · subst he
      replace hn : Hid _ := hn
      go_wp2
      go_ret2
      exact ⟨Or.inr ⟨rfl, Or.inr hn.out⟩, hb1.out.trans (hb2.out.mono hb1.out.size)⟩
  · have hb : begins (l.drop (13 * (l.length / 13))) = false := by simpa using hb
    have hbH : Hid _ := hb
    rw [hb] at hbg
    clear hb hrf
    go_enter Try.func17, Try.ntmps17
    go_wp2_with fail
    refine (hbg _).mono ?_
    rintro e w1 ⟨rfl, hb1⟩
    have hb1 : Hid _ := hb1
    go_wp2
    go_ret2
    exact ⟨Or.inr ⟨rfl, Or.inl hbH.out⟩, hb1.out⟩
end Go.Proofs.Ytdplffhieekfaaa
