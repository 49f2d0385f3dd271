/-
  The walk of stampskeep.Written: it answers true, and nothing of what was there has turned.
  Conditions: the library's table and errors read as its text lays them.
-/
import Derived.Test.YtdplffhieekfaaaDoorOrder
import Derived.Lib.ItoaLen
import Derived.Test.YtdplffhieekfaaaDoorAwake
namespace Go.Proofs.YtdplffhieekfaaaDoor
open Go.RowKit

theorem worth_small (c : Nat) (h : 65 ≤ c) (h2 : c ≤ 90) : worthOf (c + 32) = worthOf c := by
  have e1 : greatOf (c + 32) = c := by unfold greatOf; rw [if_pos (by omega)]; omega
  have e2 : greatOf c = c := by unfold greatOf; rw [if_neg (by omega)]
  unfold worthOf
  rw [e1, e2]

/-- The text that was copied by hand, up to a place. -/
structure HandAt (n k : Nat) (h : ByteArray) : Prop where
  size : h.size = k
  worth : ∀ j (hj : j < h.size), worthOf h[j].toNat = digAt n j

theorem HandAt.snoc {n k : Nat} {h : ByteArray} (hh : HandAt n k h) (c : UInt8) (hc : worthOf c.toNat = digAt n k) : HandAt n (k + 1) (h ++ ⟨#[c]⟩) := by
  obtain ⟨hs, hw⟩ := hh
  have hsz : (h ++ (⟨#[c]⟩ : ByteArray)).size = k + 1 := by
    rw [ByteArray.size_append, hs]; rfl
  refine ⟨hsz, fun j hj => ?_⟩
  by_cases hjk : j < h.size
  · rw [ByteArray.getElem_append_left hjk]; exact hw j hjk
  · have hj2 : j = k := by omega
    subst hj2
    rw [ByteArray.getElem_append_right (by omega)]
    have : (⟨#[c]⟩ : ByteArray)[j - h.size]'(by show _ < 1; omega) = c := by
      have e : j - h.size = 0 := by omega
      simp only [e]; rfl
    rw [this]; exact hc

/-- One round of the copying. -/
structure Copied (d : Nat) (c' : Int) : Prop where
  lo : 0 ≤ c'
  hi : c' < 256
  worth : worthOf c'.toNat = d

theorem conv_one (c : Int) (h0 : 0 ≤ c) (h1 : c < 256) (W : World) : (convert 32 9 (.slice (some ⟨W.heap.size, 0, none⟩) 1 1)).run Tryd.prog (W.alloc (.cells #[.int .u8 c] 5)) = .ok (.string ⟨#[c.toNat.toUInt8]⟩) (W.alloc (.cells #[.int .u8 c] 5)) := by
  have h := run_convert_bytes_back (P := Tryd.prog) (W.alloc (.cells #[.int .u8 c] 5)) 32 9 5 ⟨W.heap.size, 0, none⟩ 1 [c.toNat.toUInt8] Tryd.underlying32 Tryd.underlying5 Tryd.underlying9 (fun j hj => by
    have hj0 : j = 0 := by simpa using hj
    subst hj0
    rw [Lib.add_plain]
    refine (cell_alloc_new W #[.int .u8 c] 5 0).1.trans ?_
    have e : ((c.toNat.toUInt8).toNat : Int) = c := by rw [UInt8.toNat_ofNat_of_lt' (by show _ < 256; omega)]; omega
    simp only [List.getElem_cons_zero, e]
    rfl)
  exact h

/-- The letter behind one round. -/
theorem copied (d : Nat) (c : Int) (h0 : 0 ≤ c) (h1 : c < 256) (h : worthOf c.toNat = d) : worthOf (c.toNat.toUInt8).toNat = d := by
  rw [UInt8.toNat_ofNat_of_lt' (by show _ < 256; omega)]; exact h

set_option maxRecDepth 100000 in
set_option maxHeartbeats 4000000 in
theorem written_walk (a0 a1 a2 : Int) (h00 : 0 ≤ a0) (h01 : a0 ≤ 18446744073709551615) (h10 : 0 ≤ a1) (h11 : a1 ≤ 18446744073709551615) (w : World) (hv : Vars w) :
    Calls Tryd.prog 5 #[.int .u64 a0, .int .u64 a1, .int .i64 a2] w fun e w' => e = .returned (.bool true) ∧ Below w.heap.size w w' := by
  obtain ⟨A, hA⟩ : ∃ A : Nat, (A : Int) = a0 / 2 := ⟨(a0 / 2).toNat, by omega⟩
  obtain ⟨B, hB⟩ : ∃ B : Nat, (B : Int) = a1 / 2 := ⟨(a1 / 2).toNat, by omega⟩
  have A1 : A < 9223372036854775808 := by omega
  have B1 : B < 9223372036854775808 := by omega
  have hsA := fun w => short_yes A A1 w
  have hsB := fun w => short_yes B B1 w
  have hdA := fun w (h : Vars w) => decimal_yes A A1 w h.tab.here
  have hdB := fun w (h : Vars w) => decimal_yes B B1 w h.tab.here
  rw [hA] at hsA hdA
  rw [hB] at hsB hdB
  obtain ⟨s, hs⟩ : ∃ s : ByteArray, s = ⟨(shortOf A).toArray⟩ := ⟨_, rfl⟩
  obtain ⟨t, ht⟩ : ∃ t : ByteArray, t = ⟨(shortOf B).toArray⟩ := ⟨_, rfl⟩
  obtain ⟨u, hu⟩ : ∃ u : ByteArray, u = ⟨(Lib.decDigits A).toArray⟩ := ⟨_, rfl⟩
  obtain ⟨v, hvv⟩ : ∃ v : ByteArray, v = ⟨(Lib.decDigits B).toArray⟩ := ⟨_, rfl⟩
  rw [← hs] at hsA
  rw [← ht] at hsB
  rw [← hu] at hdA
  rw [← hvv] at hdB
  have s13 : s.size = 13 := by rw [hs]; show (shortOf A).toArray.size = 13; simp [shortOf]
  have t13 : t.size = 13 := by rw [ht]; show (shortOf B).toArray.size = 13; simp [shortOf]
  have s13b : ((s.size : Int) != 13) = false := by simp; omega
  have t13b : ((t.size : Int) != 13) = false := by simp; omega
  have hrest : Hid (s = ⟨(shortOf A).toArray⟩ ∧ t = ⟨(shortOf B).toArray⟩ ∧ u = ⟨(Lib.decDigits A).toArray⟩ ∧ v = ⟨(Lib.decDigits B).toArray⟩) := ⟨hs, ht, hu, hvv⟩
  clear hs ht hu hvv
  have hv' : Hid _ := hv
  have hAB : Hid ((A : Int) = a0 / 2 ∧ (B : Int) = a1 / 2) := ⟨hA, hB⟩
  clear hv hA hB
  go_enter Tryd.func5, Tryd.ntmps5
  go_wp2_with fail
  refine (awake_any _).mono ?_
  rintro e w1 ⟨rfl, hb1⟩
  have hb1' : Hid _ := hb1
  clear hb1
  go_wp2_with fail
  refine (hsA _).mono ?_
  rintro e w2 ⟨rfl, hb2⟩
  have hb2' : Hid _ := hb1'.out.trans (hb2.mono hb1'.out.size)
  clear hb2 hb1' hsA
  go_wp2_with fail
  refine (hsB _).mono ?_
  rintro e w3 ⟨rfl, hb3⟩
  have hb3' : Hid _ := hb2'.out.trans (hb3.mono hb2'.out.size)
  clear hb3 hb2' hsB
  go_wp2_with fail
  refine (hdA _ (hv'.out.on hb3'.out)).mono ?_
  rintro e w4 ⟨rfl, hb4⟩
  have hb4' : Hid _ := hb3'.out.trans (hb4.mono hb3'.out.size)
  clear hb4 hb3' hdA
  go_wp2_with fail
  refine (hdB _ (hv'.out.on hb4'.out)).mono ?_
  rintro e w5 ⟨rfl, hb5⟩
  have hb5' : Hid _ := hb4'.out.trans (hb5.mono hb4'.out.size)
  clear hb5 hb4' hdB
  go_wp2_with fail
  go_loopw [16, 17] (fun h i W => ∃ (k : Nat) (hd : ByteArray), k ≤ 13 ∧ i = .int .i64 k ∧ h = .string hd ∧ hd.size ≤ 13 ∧ Hid (HandAt A k hd) ∧ Hid (Below w.heap.size w W)) (fun _ i _ => 13 - (intOf i).toNat)
  case atStart =>
    exact ⟨0, ⟨#[]⟩, by omega, rfl, rfl, by show 0 ≤ 13; omega, ⟨rfl, fun j hj => absurd hj (by show ¬ j < 0; omega)⟩, hb5'⟩
  case round =>
    obtain ⟨k, hd, hk, rfl, rfl, hd13, hH, hW⟩ := hrel
    clear hb5'
    by_cases hlt : k < 13
    · have hks : k < s.size := by omega
      have hck : s[k].toNat = letterOf (digAt A k) := by
        obtain ⟨hs, _⟩ := hrest.out
        subst hs
        have e1 : ((shortOf A).toArray)[k]'(by simp [shortOf]; omega) = (letterOf (digAt A k)).toUInt8 := by simp [shortOf]
        show ((shortOf A).toArray[k]'_).toNat = _
        rw [e1, UInt8.toNat_ofNat_of_lt' (letterOf_lt _)]
      have hwc : Hid (worthOf s[k].toNat = digAt A k) := by show _ = _; rw [hck]; exact worth_letter _ (digAt_lt _ _)
      clear hck
      have hc256 : s[k].toNat < 256 := s[k].toNat_lt
      obtain ⟨x, hx⟩ : ∃ x, x = wrap64 (a2 + k) := ⟨_, rfl⟩
      have xb : -9223372036854775808 ≤ wrap64 (a2 + k) ∧ wrap64 (a2 + k) ≤ 9223372036854775807 := by unfold wrap64; omega
      have hp3 := fun w => pick_any (wrap64 (a2 + k)) 3 w xb.1 xb.2 (by omega)
      have hp2 := fun w => pick_any (wrap64 (a2 + k)) 2 w xb.1 xb.2 (by omega)
      have p3b := pickI_bounds (wrap64 (a2 + k)) 3 (by omega)
      have p2b := pickI_bounds (wrap64 (a2 + k)) 2 (by omega)
      generalize pickI (wrap64 (a2 + k)) 3 = p3 at *
      generalize pickI (wrap64 (a2 + k)) 2 = p2 at *
      clear hx x xb
      by_cases hc48 : s[k].toNat = 48
      · have b48 : ((s[k].toNat : Int) == 48) = true := by simp; omega
        have b49 : ((s[k].toNat : Int) == 49) = false := by simp; omega
        have bA : decide ((65 : Int) ≤ s[k].toNat) = false := by simp; omega
        by_cases h1 : p3 = 1
        · have b1 : (p3 == 1) = true := by simpa using h1
          obtain ⟨c', hcv, hw⟩ : ∃ c' : UInt8, (∀ W : World, (convert 32 9 (.slice (some ⟨W.heap.size, 0, none⟩) 1 1)).run Tryd.prog (W.alloc (.cells #[.int .u8 (111)] 5)) = .ok (.string ⟨#[c']⟩) (W.alloc (.cells #[.int .u8 (111)] 5))) ∧ worthOf c'.toNat = digAt A k := ⟨_, fun W => conv_one (111) (by omega) (by omega) W, copied (digAt A k) (111) (by omega) (by omega) (by rw [← hwc.out, hc48]; rfl)⟩
          have hfin : Hid (HandAt A (k + 1) (hd ++ ⟨#[c']⟩)) := hH.out.snoc c' hw
          clear hH hw hc48 h1
          go_wp2_with (go_at_call 11; refine (hp3 _).mono ?_; rintro e w' ⟨rfl, rfl⟩)
          exact ⟨⟨k + 1, hd ++ ⟨#[c']⟩, by omega, by go_num, rfl, by rw [hfin.out.size]; omega, hfin, hW.out.alloc hW.out.size _⟩, by simp [intOf]; omega⟩
        · have b1 : (p3 == 1) = false := by simpa using h1
          obtain ⟨c', hcv, hw⟩ : ∃ c' : UInt8, (∀ W : World, (convert 32 9 (.slice (some ⟨W.heap.size, 0, none⟩) 1 1)).run Tryd.prog (W.alloc (.cells #[.int .u8 ((s[k].toNat : Int))] 5)) = .ok (.string ⟨#[c']⟩) (W.alloc (.cells #[.int .u8 ((s[k].toNat : Int))] 5))) ∧ worthOf c'.toNat = digAt A k := ⟨_, fun W => conv_one ((s[k].toNat : Int)) (by omega) (by omega) W, copied (digAt A k) ((s[k].toNat : Int)) (by omega) (by omega) (by rw [Int.toNat_natCast]; exact hwc.out)⟩
          have hfin : Hid (HandAt A (k + 1) (hd ++ ⟨#[c']⟩)) := hH.out.snoc c' hw
          clear hH hw hc48 h1
          go_wp2_with (go_at_call 11; refine (hp3 _).mono ?_; rintro e w' ⟨rfl, rfl⟩)
          exact ⟨⟨k + 1, hd ++ ⟨#[c']⟩, by omega, by go_num, rfl, by rw [hfin.out.size]; omega, hfin, hW.out.alloc hW.out.size _⟩, by simp [intOf]; omega⟩
      · have b48 : ((s[k].toNat : Int) == 48) = false := by simp; omega
        by_cases hc49 : s[k].toNat = 49
        · have b49 : ((s[k].toNat : Int) == 49) = true := by simp; omega
          have bA : decide ((65 : Int) ≤ s[k].toNat) = false := by simp; omega
          by_cases h1 : p3 = 1
          · have b1 : (p3 == 1) = true := by simpa using h1
            obtain ⟨c', hcv, hw⟩ : ∃ c' : UInt8, (∀ W : World, (convert 32 9 (.slice (some ⟨W.heap.size, 0, none⟩) 1 1)).run Tryd.prog (W.alloc (.cells #[.int .u8 (105)] 5)) = .ok (.string ⟨#[c']⟩) (W.alloc (.cells #[.int .u8 (105)] 5))) ∧ worthOf c'.toNat = digAt A k := ⟨_, fun W => conv_one (105) (by omega) (by omega) W, copied (digAt A k) (105) (by omega) (by omega) (by rw [← hwc.out, hc49]; rfl)⟩
            have hfin : Hid (HandAt A (k + 1) (hd ++ ⟨#[c']⟩)) := hH.out.snoc c' hw
            clear hH hw hc48 hc49 h1
            go_wp2_with (go_at_call 11; refine (hp3 _).mono ?_; rintro e w' ⟨rfl, rfl⟩)
            exact ⟨⟨k + 1, hd ++ ⟨#[c']⟩, by omega, by go_num, rfl, by rw [hfin.out.size]; omega, hfin, hW.out.alloc hW.out.size _⟩, by simp [intOf]; omega⟩
          · have b1 : (p3 == 1) = false := by simpa using h1
            by_cases h2 : p3 = 2
            · have b2 : (p3 == 2) = true := by simpa using h2
              obtain ⟨c', hcv, hw⟩ : ∃ c' : UInt8, (∀ W : World, (convert 32 9 (.slice (some ⟨W.heap.size, 0, none⟩) 1 1)).run Tryd.prog (W.alloc (.cells #[.int .u8 (76)] 5)) = .ok (.string ⟨#[c']⟩) (W.alloc (.cells #[.int .u8 (76)] 5))) ∧ worthOf c'.toNat = digAt A k := ⟨_, fun W => conv_one (76) (by omega) (by omega) W, copied (digAt A k) (76) (by omega) (by omega) (by rw [← hwc.out, hc49]; rfl)⟩
              have hfin : Hid (HandAt A (k + 1) (hd ++ ⟨#[c']⟩)) := hH.out.snoc c' hw
              clear hH hw hc48 hc49 h1 h2
              go_wp2_with (go_at_call 11; refine (hp3 _).mono ?_; rintro e w' ⟨rfl, rfl⟩)
              exact ⟨⟨k + 1, hd ++ ⟨#[c']⟩, by omega, by go_num, rfl, by rw [hfin.out.size]; omega, hfin, hW.out.alloc hW.out.size _⟩, by simp [intOf]; omega⟩
            · have b2 : (p3 == 2) = false := by simpa using h2
              obtain ⟨c', hcv, hw⟩ : ∃ c' : UInt8, (∀ W : World, (convert 32 9 (.slice (some ⟨W.heap.size, 0, none⟩) 1 1)).run Tryd.prog (W.alloc (.cells #[.int .u8 ((s[k].toNat : Int))] 5)) = .ok (.string ⟨#[c']⟩) (W.alloc (.cells #[.int .u8 ((s[k].toNat : Int))] 5))) ∧ worthOf c'.toNat = digAt A k := ⟨_, fun W => conv_one ((s[k].toNat : Int)) (by omega) (by omega) W, copied (digAt A k) ((s[k].toNat : Int)) (by omega) (by omega) (by rw [Int.toNat_natCast]; exact hwc.out)⟩
              have hfin : Hid (HandAt A (k + 1) (hd ++ ⟨#[c']⟩)) := hH.out.snoc c' hw
              clear hH hw hc48 hc49 h1 h2
              go_wp2_with (go_at_call 11; refine (hp3 _).mono ?_; rintro e w' ⟨rfl, rfl⟩)
              exact ⟨⟨k + 1, hd ++ ⟨#[c']⟩, by omega, by go_num, rfl, by rw [hfin.out.size]; omega, hfin, hW.out.alloc hW.out.size _⟩, by simp [intOf]; omega⟩
        · have b49 : ((s[k].toNat : Int) == 49) = false := by simp; omega
          by_cases hlo : 65 ≤ s[k].toNat
          · have bA : decide ((65 : Int) ≤ s[k].toNat) = true := by simp; omega
            by_cases hhi : s[k].toNat ≤ 90
            · have bZ : decide ((s[k].toNat : Int) ≤ 90) = true := by simp; omega
              by_cases h2 : p2 = 1
              · have b2 : (p2 == 1) = true := by simpa using h2
                obtain ⟨c', hcv, hw⟩ : ∃ c' : UInt8, (∀ W : World, (convert 32 9 (.slice (some ⟨W.heap.size, 0, none⟩) 1 1)).run Tryd.prog (W.alloc (.cells #[.int .u8 ((s[k].toNat : Int) + 32)] 5)) = .ok (.string ⟨#[c']⟩) (W.alloc (.cells #[.int .u8 ((s[k].toNat : Int) + 32)] 5))) ∧ worthOf c'.toNat = digAt A k := ⟨_, fun W => conv_one ((s[k].toNat : Int) + 32) (by omega) (by omega) W, copied (digAt A k) ((s[k].toNat : Int) + 32) (by omega) (by omega) (by rw [← hwc.out, show ((s[k].toNat : Int) + 32).toNat = s[k].toNat + 32 by omega]; exact worth_small _ hlo hhi)⟩
                have hfin : Hid (HandAt A (k + 1) (hd ++ ⟨#[c']⟩)) := hH.out.snoc c' hw
                clear hH hw hc48 hc49 h2
                go_wp2_with (go_at_call 11; refine (hp2 _).mono ?_; rintro e w' ⟨rfl, rfl⟩)
                exact ⟨⟨k + 1, hd ++ ⟨#[c']⟩, by omega, by go_num, rfl, by rw [hfin.out.size]; omega, hfin, hW.out.alloc hW.out.size _⟩, by simp [intOf]; omega⟩
              · have b2 : (p2 == 1) = false := by simpa using h2
                obtain ⟨c', hcv, hw⟩ : ∃ c' : UInt8, (∀ W : World, (convert 32 9 (.slice (some ⟨W.heap.size, 0, none⟩) 1 1)).run Tryd.prog (W.alloc (.cells #[.int .u8 ((s[k].toNat : Int))] 5)) = .ok (.string ⟨#[c']⟩) (W.alloc (.cells #[.int .u8 ((s[k].toNat : Int))] 5))) ∧ worthOf c'.toNat = digAt A k := ⟨_, fun W => conv_one ((s[k].toNat : Int)) (by omega) (by omega) W, copied (digAt A k) ((s[k].toNat : Int)) (by omega) (by omega) (by rw [Int.toNat_natCast]; exact hwc.out)⟩
                have hfin : Hid (HandAt A (k + 1) (hd ++ ⟨#[c']⟩)) := hH.out.snoc c' hw
                clear hH hw hc48 hc49 h2
                go_wp2_with (go_at_call 11; refine (hp2 _).mono ?_; rintro e w' ⟨rfl, rfl⟩)
                exact ⟨⟨k + 1, hd ++ ⟨#[c']⟩, by omega, by go_num, rfl, by rw [hfin.out.size]; omega, hfin, hW.out.alloc hW.out.size _⟩, by simp [intOf]; omega⟩
            · have bZ : decide ((s[k].toNat : Int) ≤ 90) = false := by simp; omega
              obtain ⟨c', hcv, hw⟩ : ∃ c' : UInt8, (∀ W : World, (convert 32 9 (.slice (some ⟨W.heap.size, 0, none⟩) 1 1)).run Tryd.prog (W.alloc (.cells #[.int .u8 ((s[k].toNat : Int))] 5)) = .ok (.string ⟨#[c']⟩) (W.alloc (.cells #[.int .u8 ((s[k].toNat : Int))] 5))) ∧ worthOf c'.toNat = digAt A k := ⟨_, fun W => conv_one ((s[k].toNat : Int)) (by omega) (by omega) W, copied (digAt A k) ((s[k].toNat : Int)) (by omega) (by omega) (by rw [Int.toNat_natCast]; exact hwc.out)⟩
              have hfin : Hid (HandAt A (k + 1) (hd ++ ⟨#[c']⟩)) := hH.out.snoc c' hw
              clear hH hw hc48 hc49
              go_wp2_with (go_at_call 11; refine (hp3 _).mono ?_; rintro e w' ⟨rfl, rfl⟩)
              exact ⟨⟨k + 1, hd ++ ⟨#[c']⟩, by omega, by go_num, rfl, by rw [hfin.out.size]; omega, hfin, hW.out.alloc hW.out.size _⟩, by simp [intOf]; omega⟩
          · have bA : decide ((65 : Int) ≤ s[k].toNat) = false := by simp; omega
            obtain ⟨c', hcv, hw⟩ : ∃ c' : UInt8, (∀ W : World, (convert 32 9 (.slice (some ⟨W.heap.size, 0, none⟩) 1 1)).run Tryd.prog (W.alloc (.cells #[.int .u8 ((s[k].toNat : Int))] 5)) = .ok (.string ⟨#[c']⟩) (W.alloc (.cells #[.int .u8 ((s[k].toNat : Int))] 5))) ∧ worthOf c'.toNat = digAt A k := ⟨_, fun W => conv_one ((s[k].toNat : Int)) (by omega) (by omega) W, copied (digAt A k) ((s[k].toNat : Int)) (by omega) (by omega) (by rw [Int.toNat_natCast]; exact hwc.out)⟩
            have hfin : Hid (HandAt A (k + 1) (hd ++ ⟨#[c']⟩)) := hH.out.snoc c' hw
            clear hH hw hc48 hc49
            go_wp2_with (go_at_call 11; refine (hp3 _).mono ?_; rintro e w' ⟨rfl, rfl⟩)
            exact ⟨⟨k + 1, hd ++ ⟨#[c']⟩, by omega, by go_num, rfl, by rw [hfin.out.size]; omega, hfin, hW.out.alloc hW.out.size _⟩, by simp [intOf]; omega⟩
    · have hk13 : k = 13 := by omega
      subst hk13
      have hkk : ¬ (13 : Nat) < 13 := by omega
      obtain ⟨es, et, eu, ev⟩ := hrest.out
      obtain ⟨eA, eB⟩ := hAB.out
      have r1 : readNum s = A ∧ readErr s = 0 := read_of s A A1 s13 (fun j hj => by
        have hj13 : j < 13 := by omega
        subst es
        have e1 : ((shortOf A).toArray)[j]'(by simp [shortOf]; omega) = (letterOf (digAt A j)).toUInt8 := by simp [shortOf]
        show worthOf ((shortOf A).toArray[j]'_).toNat = _
        rw [e1, UInt8.toNat_ofNat_of_lt' (letterOf_lt _)]
        exact worth_letter _ (digAt_lt _ _))
      have r2 : readNum hd = A ∧ readErr hd = 0 := read_of hd A A1 hH.out.size hH.out.worth
      have r3 : decNum u.data.toList = A ∧ decErr u.data.toList = 0 := by rw [eu]; exact dec_back A A1
      have hu20 : u.size ≤ 20 := by
        rw [eu]
        show (Lib.decDigits A).toArray.size ≤ 20
        have h1 := Lib.decDigits_length A
        have h2 := Lib.nDigits_le20 A (by omega)
        simp only [List.size_toArray]; omega
      have hps := fun w => parseShort_any s w
      have hph := fun w => parseShort_any hd w
      have hpd := fun w (h : Vars w) => parseDecimal_any u w h (by omega)
      rw [r1.1, r1.2, eA] at hps
      rw [r2.1, r2.2, eA] at hph
      rw [r3.1, r3.2, eA] at hpd
      have hless : Hid (Op.bytesLess s.toList t.toList = decide (a0 / 2 < a1 / 2)) := by
        show _ = _
        rw [Lib.toList_data, Lib.toList_data, es, et]
        exact (short_less A B A1 B1).trans (by rw [decide_eq_decide]; omega)
      have hord : Hid ((decide ((u.size : Int) < v.size) || (decide (u.size = v.size) && Op.bytesLess u.toList v.toList)) = decide (a0 / 2 < a1 / 2)) := by
        show _ = _
        rw [Lib.toList_data, Lib.toList_data, eu, ev]
        have hdec : decide (A < B) = decide (a0 / 2 < a1 / 2) := by rw [decide_eq_decide]; omega
        have := (dec_order A B).trans hdec
        rw [← this]
        simp only [List.size_toArray, ByteArray.size]
        congr 1
        simp
      clear es et eu ev eA eB r1 r2 r3 hrest hH hkk hlt hk hd13
      have hfin : Hid (∀ W, Below W.heap.size wr W → Vars wr → True) := fun _ _ _ => trivial
      clear hfin
      have hvr := hv'.out.on hW.out
      have hpd1 := hpd _ hvr
      clear hvr hpd
      go_wp2_with fail
      refine (hps _).mono ?_
      rintro e w6 ⟨rfl, rfl⟩
      clear hps
      go_wp2_with fail
      refine (hph _).mono ?_
      rintro e w6 ⟨rfl, rfl⟩
      clear hph
      go_wp2_with fail
      refine hpd1.mono ?_
      rintro e w7 ⟨rfl, hb7⟩
      have hb7' : Hid (Below w.heap.size w w7) := hW.out.trans (hb7.mono hW.out.size)
      clear hb7 hpd1 hW
      by_cases hab : a0 / 2 < a1 / 2
      · have l1 : Op.bytesLess s.toList t.toList = true := by rw [hless.out]; simpa using hab
        have o1 := hord.out
        rw [decide_eq_true hab] at o1
        by_cases hl : u.size < v.size
        · clear o1
          go_wp2
          go_ret
          exact ⟨rfl, hb7'.out⟩
        · have hl2 : u.size = v.size ∧ Op.bytesLess u.toList v.toList = true := by
            have : decide ((u.size : Int) < v.size) = false := by simp; omega
            rw [this] at o1
            simpa using o1
          obtain ⟨hl2, l2⟩ := hl2
          have l3 : ((u.size : Int) == (v.size : Int)) = true := by simp; omega
          have l4 : decide ((u.size : Int) < (v.size : Int)) = false := by simp; omega
          clear o1 hl2
          go_wp2
          go_ret
          exact ⟨rfl, hb7'.out⟩
      · have l1 : Op.bytesLess s.toList t.toList = false := by rw [hless.out]; simpa using hab
        have o1 := hord.out
        have hdf : decide (a0 / 2 < a1 / 2) = false := by simpa using hab
        rw [hdf] at o1
        have hl : ¬ u.size < v.size := fun h => by
          have : decide ((u.size : Int) < v.size) = true := by simp; omega
          rw [this] at o1; simp at o1
        have l4 : decide ((u.size : Int) < (v.size : Int)) = false := by simp; omega
        by_cases hl2 : u.size = v.size
        · have l2 : Op.bytesLess u.toList v.toList = false := by
            rw [l4] at o1
            simpa [hl2] using o1
          have l3 : ((u.size : Int) == (v.size : Int)) = true := by simp; omega
          clear o1 hl2
          go_wp2
          go_ret
          exact ⟨rfl, hb7'.out⟩
        · have l3 : ((u.size : Int) == (v.size : Int)) = false := by simp; omega
          clear o1 hl2
          go_wp2
          go_ret
          exact ⟨rfl, hb7'.out⟩
end Go.Proofs.YtdplffhieekfaaaDoor
