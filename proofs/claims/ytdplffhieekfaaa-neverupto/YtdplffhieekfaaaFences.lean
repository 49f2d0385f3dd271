/-
  stamps.readFences: of records an office can have told: their fences; of any other text that has the length of records: ErrText.
-/
import Derived.Test.YtdplffhieekfaaaRecRead
import Derived.Test.YtdplffhieekfaaaJour
import Derived.Maps.OwnOps
import Derived.Maps.OwnSet
namespace Go.Proofs.Ytdplffhieekfaaa
open Go.RowKit Go.Maps

theorem lawInt : Keyed Try.prog 3 := int_keyed Try.underlying3
theorem zeroInt (w : World) : (zeroValue 3).run Try.prog w = .ok (.int .i64 0) w := by kernel_rfl

/-- A map of at most n entries tells the fences f. -/
structure FenceMap (w : World) (m n : Nat) (f : Nat → Nat) : Prop where
  mk ::
  all : ∃ D : DataW Unit, w.ownsMap Try.prog 3 (plainElem Try.prog 3) m n D ∧ ∀ nd : Nat, nd < 1024 → D.atKey (.int .i64 nd) (.lit (.int .i64 0)) = .lit (.int .i64 (f nd))

theorem FenceMap.look {w : World} {m n : Nat} {f : Nat → Nat} (h : FenceMap w m n f) (nd : Nat) (hn : nd < 1024) (k : Nat) :
    (Instr.lookup 85 (.map (some m)) (.int .i64 nd) false).run Try.prog (w.drewN k) = .ok (.int .i64 (f nd)) (w.drewN k) := by
  obtain ⟨D, ho, hf⟩ := h.all
  have ho' : (w.drewN k).ownsMap Try.prog 3 (plainElem Try.prog 3) m n D := ho
  have hk : keyOf Try.prog 3 (.int .i64 (nd : Int)) = some (.int .i64 (nd : Int)) := keyOf_int_mk Try.underlying3 (WalkArith.wf_i64 (by omega))
  obtain ⟨c, h1, h2, _⟩ := ho'.lookup_int lawInt Try.underlying85 Try.underlying3 (zeroInt _) hk
  rw [hf nd hn] at h2
  simp only [DataW.lit.injEq, Lit.int.injEq, true_and] at h2
  rw [h1, ← h2]

theorem FenceMap.store {w : World} {m n : Nat} {f : Nat → Nat} (h : FenceMap w m n f) (nd to : Nat) (hn : nd < 1024) (ht : to ≤ 2199023255552) (hl : n < maxLen) :
    ∃ w', (Instr.mapUpdate 85 (.map (some m)) (.int .i64 nd) (.int .i64 to)).run Try.prog w = .ok () w' ∧ FenceMap w' m (n + 1) (fun k => if nd = k then to else f k) ∧ w.grownBy w' (some m) := by
  obtain ⟨D, ho, hf⟩ := h.all
  have hk : keyOf Try.prog 3 (.int .i64 (nd : Int)) = some (.int .i64 (nd : Int)) := keyOf_int_mk Try.underlying3 (WalkArith.wf_i64 (by omega))
  have he : plainElem (H := Unit) Try.prog 3 (.int .i64 (to : Int)) = some (.lit (.int .i64 (to : Int)), []) := plainElem_int Try.underlying3 (WalkArith.wf_i64 (by omega))
  obtain ⟨w', h1, h2, h3⟩ := ho.update lawInt Try.underlying85 hl hk he
  refine ⟨w', h1, ⟨⟨_, h2, fun k hk => ?_⟩⟩, h3⟩
  by_cases e : nd = k
  · subst e
    simp only [if_pos]
    exact atKey_put_same ho.isMap (by unfold WideAt.IsKeyLit; trivial) _ _
  · simp only [if_neg e]
    rw [atKey_put_other (by simp; omega)]
    exact hf k hk

theorem FenceMap.made (w : World) : FenceMap (w.alloc (.map #[] 0)) w.heap.size 0 (fenceOf []) :=
  ⟨⟨_, World.ownsMap_made _ _ _ _, fun _ _ => rfl⟩⟩

theorem FenceMap.on {w w' : World} {m n : Nat} {f : Nat → Nat} (h : FenceMap w m n f) (hb : w'.heap[m]? = w.heap[m]?) : FenceMap w' m n f := by
  obtain ⟨D, ⟨es, clock, h1, h2⟩, hf⟩ := h.all
  exact ⟨⟨D, ⟨es, clock, hb.trans h1, h2⟩, hf⟩⟩
theorem FenceMap.lt {w : World} {m n : Nat} {f : Nat → Nat} (h : FenceMap w m n f) : m < w.heap.size := by
  obtain ⟨D, ho, _⟩ := h.all
  exact ho.lt
theorem FenceMap.to {w : World} {m n n' : Nat} {f g : Nat → Nat} (h : FenceMap w m n f) (hn : n ≤ n') (hg : ∀ k, k < 1024 → f k = g k) : FenceMap w m n' g := by
  obtain ⟨D, ho, hf⟩ := h.all
  exact ⟨⟨D, ho.mono hn, fun k hk => by rw [hf k hk, hg k hk]⟩⟩

/-- The text of a list of bytes. -/
abbrev btext (l : List UInt8) : ByteArray := ⟨l.toArray⟩

theorem btext_size (l : List UInt8) : (btext l).size = l.length := by show l.toArray.size = _; simp
theorem btext_list (l : List UInt8) : (btext l).data.toList = l := by simp
theorem btext_take (l : List UInt8) (n : Nat) : (btext l).extract 0 n = btext (l.take n) := by
  apply ByteArray.ext
  rw [ByteArray.data_extract]
  apply Array.toList_inj.1
  simp
theorem btext_drop (l : List UInt8) (n : Nat) : (btext l).extract n l.length = btext (l.drop n) := by
  apply ByteArray.ext
  rw [ByteArray.data_extract]
  apply Array.toList_inj.1
  simp only [Array.toList_extract, List.extract_eq_take_drop]
  exact List.take_of_length_le (by simp)

/-- What readFences answers: the map of the fences of the records that the text is; or ErrText, where it is none. -/
def FencesRead (l : List UInt8) (w w' : World) (e : Ending) : Prop :=
  (∃ (m : Nat) (rs : List (Nat × Nat)), e = .returned (.tuple #[.map (some m), .int .i64 0]) ∧ w.heap.size ≤ m ∧ l = jtext rs ∧ Good rs ∧ FenceMap w' m rs.length (fenceOf rs)) ∨
  (e = .returned (.tuple #[.map none, .int .i64 2]) ∧ ∀ rs, Good rs → l ≠ jtext rs)

structure FencesLoop (l : List UInt8) (w W : World) (rs : List (Nat × Nat)) (rest : List UInt8) : Prop where
  txt : l = jtext rs ++ rest
  thir : rest.length % 13 = 0
  good : Good rs
  map : FenceMap W w.heap.size rs.length (fenceOf rs)
  bel : Below w.heap.size w W

/-- A round that reads a record. -/
theorem FencesLoop.step {l : List UInt8} {w W W' : World} {rs : List (Nat × Nat)} {rest : List UInt8} (h : FencesLoop l w W rs rest) (h13 : 13 ≤ rest.length) (ho : recOk (btext (rest.take 13)))
    (hf : fenceOf rs (recNode (btext (rest.take 13))) < recTo (btext (rest.take 13))) (hb : Below w.heap.size w W')
    (hm : FenceMap W' w.heap.size (rs.length + 1) (fun k => if recNode (btext (rest.take 13)) = k then recTo (btext (rest.take 13)) else fenceOf rs k)) :
    FencesLoop l w W' (rs ++ [(recNode (btext (rest.take 13)), recTo (btext (rest.take 13)))]) (rest.drop 13) := by
  have hs : (btext (rest.take 13)).size = 13 := by rw [btext_size, List.length_take]; omega
  obtain ⟨r1, r2, r3, r4⟩ := rec_of_ok hs ho
  rw [btext_list] at r1
  refine ⟨?_, ?_, good_snoc h.good r2 r4 hf, ?_, hb⟩
  · rw [jtext_snoc, ← r1, List.append_assoc, List.take_append_drop]
    exact h.txt
  · rw [List.length_drop]
    have := h.thir
    omega
  · rw [List.length_append, List.length_singleton]
    exact hm.to (Nat.le_refl _) (fun k _ => (fence_snoc rs (recNode (btext (rest.take 13)), recTo (btext (rest.take 13))) k).symm)

/-- Where a record is none, or its To is not above the fence, no office told the text. -/
theorem FencesLoop.none {l : List UInt8} {w W : World} {rs : List (Nat × Nat)} {rest : List UInt8} (h : FencesLoop l w W rs rest) (h13 : 13 ≤ rest.length)
    (hn : recOk (btext (rest.take 13)) → ¬ fenceOf rs (recNode (btext (rest.take 13))) < recTo (btext (rest.take 13))) : ∀ ss, Good ss → l ≠ jtext ss := by
  intro ss hg he
  have e1 := good_prefix h.good hg (he.symm.trans h.txt)
  have hlen : rs.length < ss.length := by
    have := congrArg List.length (he.symm.trans h.txt)
    rw [List.length_append, jtext_length, jtext_length] at this
    omega
  have e2 : jtext ss = jtext rs ++ (recText (ss[rs.length]).1 (ss[rs.length]).2 ++ jtext (ss.drop (rs.length + 1))) := by
    have e1' : jtext rs = jtext (ss.take rs.length) := congrArg jtext e1
    rw [e1', ← List.append_assoc, ← jtext_snoc, ← List.take_succ_eq_append_getElem (by omega), ← jtext_append, List.take_append_drop]
  have e3 : rest = recText (ss[rs.length]).1 (ss[rs.length]).2 ++ jtext (ss.drop (rs.length + 1)) := List.append_cancel_left (h.txt.symm.trans (he.trans e2))
  have e4 : rest.take 13 = recText (ss[rs.length]).1 (ss[rs.length]).2 := by
    rw [e3, List.take_append_of_le_length (by rw [recText_length]; omega), List.take_of_length_le (by rw [recText_length]; omega)]
  have g := hg rs.length hlen
  obtain ⟨b1, b2, b3⟩ := rec_back _ _ g.1 (by omega) g.2.1
  rw [e4] at hn
  have := hn b1
  rw [b2, b3] at this
  rw [← e1] at g
  exact this g.2.2

set_option maxRecDepth 100000 in
set_option maxHeartbeats 1000000 in
theorem readFences_any (l : List UInt8) (w : World) (hl : l.length % 13 = 0) (hb : l.length ≤ 281474976710656) :
    Calls Try.prog 33 #[.string (btext l)] w fun e w' => FencesRead l w w' e ∧ Below w.heap.size w w' := by
  have hmm := @run_makeMap Try.prog
  go_enter Try.func33, Try.ntmps33
  go_wp2
  go_loopw [0] (fun x W => ∃ (rs : List (Nat × Nat)) (rest : List UInt8), x = .string (btext rest) ∧ Hid (FencesLoop l w W rs rest)) (fun x _ => match x with | .string b => b.size | _ => 0)
  case atStart => exact ⟨[], l, rfl, ⟨rfl, hl, good_nil, FenceMap.made w, (Below.refl _ _).alloc (Nat.le_refl _) _⟩⟩
  case round =>
    obtain ⟨rs, rest, rfl, hL⟩ := hrel
    by_cases hr : rest = []
    · subst hr
      have hL' := hL.out
      go_wp2
      go_ret2
      refine ⟨Or.inl ⟨_, rs, rfl, Nat.le_refl _, by simpa using hL'.txt, hL'.good, hL'.map⟩, hL'.bel⟩
    · have hne : rest.isEmpty = false := by cases rest with | nil => exact absurd rfl hr | cons _ _ => rfl
      have h13 : 13 ≤ rest.length := by
        have h1 := hL.out.thir
        have h2 : rest.length ≠ 0 := fun e => hr (List.length_eq_zero_iff.1 e)
        omega
      have h13' : (13 : Int) ≤ (rest.length : Int) := by omega
      have hs : (btext (rest.take 13)).size = 13 := by rw [btext_size, List.length_take]; omega
      clear hr
      by_cases ho : recOk (btext (rest.take 13))
      · have hc := fun w => rread_ok (btext (rest.take 13)) w hs ho
        rw [← btext_take] at hc
        obtain ⟨r1, r2, r3, r4⟩ := rec_of_ok hs ho
        have hos : Hid _ := ho
        have hbel : Hid _ := hL.out.bel
        have hmap : Hid _ := hL.out.map
        have hrl : Hid (rs.length < maxLen) := by
          have := congrArg List.length hL.out.txt
          rw [List.length_append, jtext_length] at this
          show _ < _
          unfold maxLen
          omega
        by_cases hlt : fenceOf rs (recNode (btext (rest.take 13))) < recTo (btext (rest.take 13))
        · have hltH : Hid _ := hlt
          have hle : decide (recTo (btext (rest.take 13)) ≤ fenceOf rs (recNode (btext (rest.take 13)))) = false := decide_eq_false (by omega)
          have hdr : Hid ((btext rest).extract 13 rest.length = btext (rest.drop 13)) := btext_drop rest 13
          clear ho r1 hlt h13
          generalize hnd : recNode (btext (rest.take 13)) = nd at *
          generalize hto : recTo (btext (rest.take 13)) = to at *
          have hndH : Hid _ := hnd
          have htoH : Hid _ := hto
          rw [btext_take, hnd, hto] at hc
          rw [← btext_take] at hc
          clear hnd hto
          go_wp2_with fail
          refine (hc _).mono ?_
          rintro e w1 ⟨rfl, hb1⟩
          have hb1 : Hid _ := hb1
          have hm1 := hmap.out.on (hb1.out.block _ hmap.out.lt)
          have hlk := hm1.look nd r2 0
          obtain ⟨w2, hup, hm2, hg2⟩ := hm1.store nd to r2 r4 hrl.out
          have hm1 : Hid _ := hm1
          have hm2 : Hid _ := hm2
          have hg2 : Hid _ := hg2
          rw [World.drewN_zero] at hlk
          go_wp2
          have h13 : 13 ≤ rest.length := by omega
          have hos := hos.out
          have hlt := hltH.out
          refine ⟨⟨_, rest.drop 13, by rw [hdr.out], hL.out.step h13 hos (by rw [hndH.out, htoH.out]; exact hlt) ((hbel.out.trans (hb1.out.mono hbel.out.size)).grown hg2.out (Nat.le_trans hbel.out.size hb1.out.size) (fun j hj => by cases hj; exact Nat.le_refl _)) (by rw [hndH.out, htoH.out]; exact hm2.out)⟩, ?_⟩
          show ((btext rest).extract 13 rest.length).size < (btext rest).size
          rw [hdr.out, btext_size, btext_size, List.length_drop]
          omega
        · have hno : Hid (∀ rs, Good rs → l ≠ jtext rs) := hL.out.none h13 (fun _ => hlt)
          have hle : decide (recTo (btext (rest.take 13)) ≤ fenceOf rs (recNode (btext (rest.take 13)))) = true := decide_eq_true (by omega)
          clear ho r1 hlt h13
          generalize hnd : recNode (btext (rest.take 13)) = nd at *
          generalize hto : recTo (btext (rest.take 13)) = to at *
          rw [btext_take, hnd, hto] at hc
          rw [← btext_take] at hc
          clear hnd hto
          go_wp2_with fail
          refine (hc _).mono ?_
          rintro e w1 ⟨rfl, hb1⟩
          have hb1 : Hid _ := hb1
          have hlk := (hmap.out.on (hb1.out.block _ hmap.out.lt)).look nd r2 0
          rw [World.drewN_zero] at hlk
          go_wp2
          go_ret2
          exact ⟨Or.inr ⟨rfl, hno.out⟩, hbel.out.trans (hb1.out.mono hbel.out.size)⟩
      · have hno : Hid (∀ rs, Good rs → l ≠ jtext rs) := hL.out.none h13 (fun h => absurd h ho)
        have hbel : Hid _ := hL.out.bel
        have hc : ∀ w, Calls Try.prog 42 #[.string ((btext rest).extract 0 13)] w fun e w' => e = .returned (.tuple #[.int .i64 0, .int .i64 0, .int .i64 2]) ∧ Below w.heap.size w w' := fun w => by
          rw [btext_take]
          by_cases h1 : readErr (btext (rest.take 13)) = 0
          · by_cases h2 : readNum (btext (rest.take 13)) % 4096 = 4095
            · exact rread_text _ w hs h1 h2 (fun h3 => ho ⟨h1, h2, h3⟩)
            · exact rread_seq _ w hs h1 h2
          · exact rread_err _ w hs h1
        clear ho
        go_wp2_with fail
        refine (hc _).mono ?_
        rintro e w1 ⟨rfl, hb1⟩
        have hb1 : Hid _ := hb1
        go_wp2
        go_ret2
        exact ⟨Or.inr ⟨rfl, hno.out⟩, hbel.out.trans (hb1.out.mono hbel.out.size)⟩
end Go.Proofs.Ytdplffhieekfaaa
