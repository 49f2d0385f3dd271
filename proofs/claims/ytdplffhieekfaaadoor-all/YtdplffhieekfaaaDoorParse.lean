/-
  stamps.ParseDecimal and stamps.ParseShort.
  Conditions: the library's table of powers of ten and its two errors read as its text lays them; a text that memory holds.
-/
import Derived.Test.YtdplffhieekfaaaDoorDec
namespace Go.Proofs.YtdplffhieekfaaaDoor
open Go.RowKit

/-- What of the program's variables is read, whatever is laid behind them. -/
structure Vars (w : World) : Prop where
  tab : Lib.TabBelow Tryd.prog w.heap.size w "internal/strconv.uint64pow10" .u64 Lib.pow10Tab
  syn : ∃ te pe, w.cell? ⟨1, 0, none⟩ = some (.iface te pe)
  rng : ∃ te pe, w.cell? ⟨2, 0, none⟩ = some (.iface te pe)

theorem Vars.on {w w1 : World} (h : Vars w) (hb : Below w.heap.size w w1) : Vars w1 := by
  obtain ⟨t, ⟨a, b, hs⟩, ⟨c, d, hr⟩⟩ := h
  refine ⟨fun w' h' => t w' (hb.trans (h'.mono hb.size)), ⟨a, b, ?_⟩, ⟨c, d, ?_⟩⟩
  · rw [hb.cell (p := ⟨1, 0, none⟩) (block_lt_of_cell hs)]; exact hs
  · rw [hb.cell (p := ⟨2, 0, none⟩) (block_lt_of_cell hr)]; exact hr

/-- What a decimal text is read as. -/
def decNum (l : List UInt8) : Nat :=
  match Lib.parseUintB 64 l with
  | .ok u => if u < 9223372036854775808 ∧ Lib.decDigits u = l then u else 0
  | _ => 0
def decErr (l : List UInt8) : Int :=
  match Lib.parseUintB 64 l with
  | .ok u => if u < 9223372036854775808 ∧ Lib.decDigits u = l then 0 else 2
  | _ => 2

set_option maxRecDepth 100000 in
set_option maxHeartbeats 1000000 in
theorem parseDec_ok (s : ByteArray) (u : Nat) (w : World) (hv : Vars w) (hs : s.size ≤ 281474976710656) (h : Lib.parseUintB 64 s.data.toList = .ok u) (hu : u < 9223372036854775808) :
    Calls Tryd.prog 13 #[.string s] w fun e w' => e = .returned (.tuple #[.int .u64 (decNum s.data.toList), .int .i64 (decErr s.data.toList)]) ∧ Below w.heap.size w w' := by
  have hp := Tryd.strconv_ParseUint_10_at64_ok s (by omega) u h w
  have hi := fun w => is_yes (u : Int) w (by omega)
  have hf : ∀ w', Below w.heap.size w w' → Calls Tryd.prog 21 #[.int .u64 u, .int .i64 10] w' fun e w1 => e = .returned (.string ⟨(Lib.decDigits u).toArray⟩) ∧ Below w'.heap.size w' w1 := fun w' hb => formatUint u (by omega) w' ((hv.on hb).tab.here)
  have hp' : Calls Tryd.prog 23 #[.string s, .int .i64 10, .int .i64 64] w fun e w' => e = .returned (.tuple #[.int .u64 u, .nilIface]) ∧ Below w.heap.size w w' := hp.mono fun e w' ⟨he, hw⟩ => ⟨he, by
    rcases hw with rfl | rfl
    · exact Below.refl _ _
    · exact Lib.bytesWorld_below _ _ _⟩
  clear hp hv
  by_cases hd : Lib.decDigits u = s.data.toList
  · have hfin : Hid (decNum s.data.toList = u ∧ decErr s.data.toList = 0) := by
      unfold decNum decErr; rw [h]; simp only; rw [if_pos ⟨hu, hd⟩, if_pos ⟨hu, hd⟩]; exact ⟨rfl, rfl⟩
    have hds : (⟨(Lib.decDigits u).toArray⟩ : ByteArray) = s := by rw [hd]
    rw [hds] at hf
    clear h hd hds
    go_enter Tryd.func13, Tryd.ntmps13
    go_wp2_with (first | (go_at_call 23; refine hp'.mono ?_; rintro e w1 ⟨rfl, hb⟩; have hb' : Hid _ := hb; have hf1 := hf _ hb; clear hb) | (go_at_call 19; refine (hi _).mono ?_; rintro e w' ⟨rfl, rfl⟩) | (go_at_call 21; refine hf1.mono ?_; rintro e w2 ⟨rfl, hb2⟩; have hb2' : Hid _ := hb2; clear hb2))
    go_ret2
    rw [hfin.out.1, hfin.out.2]
    exact ⟨rfl, hb'.out.trans (hb2'.out.mono hb'.out.size)⟩
  · have hfin : Hid (decNum s.data.toList = 0 ∧ decErr s.data.toList = 2) := by
      unfold decNum decErr; rw [h]; simp only; rw [if_neg (fun hh => hd hh.2), if_neg (fun hh => hd hh.2)]; exact ⟨rfl, rfl⟩
    have hds : (⟨(Lib.decDigits u).toArray⟩ : ByteArray) ≠ s := fun he => hd (by rw [← he])
    generalize (⟨(Lib.decDigits u).toArray⟩ : ByteArray) = t at *
    have hts : (t.toList == s.toList) = false := by
      rw [beq_eq_false_iff_ne, Lib.toList_data, Lib.toList_data]
      intro he
      refine hds ?_
      cases t with | mk a => cases s with | mk b => simp only at he; rw [Array.toList_inj.1 he]
    clear h hd hds
    go_enter Tryd.func13, Tryd.ntmps13
    go_wp2_with (first | (go_at_call 23; refine hp'.mono ?_; rintro e w1 ⟨rfl, hb⟩; have hb' : Hid _ := hb; have hf1 := hf _ hb; clear hb) | (go_at_call 19; refine (hi _).mono ?_; rintro e w' ⟨rfl, rfl⟩) | (go_at_call 21; refine hf1.mono ?_; rintro e w2 ⟨rfl, hb2⟩; have hb2' : Hid _ := hb2; clear hb2))
    go_ret2
    rw [hfin.out.1, hfin.out.2]
    exact ⟨rfl, hb'.out.trans (hb2'.out.mono hb'.out.size)⟩

set_option maxRecDepth 100000 in
set_option maxHeartbeats 1000000 in
theorem parseDec_big (s : ByteArray) (u : Nat) (w : World) (hs : s.size ≤ 281474976710656) (h : Lib.parseUintB 64 s.data.toList = .ok u) (hu : 9223372036854775808 ≤ u) :
    Calls Tryd.prog 13 #[.string s] w fun e w' => e = .returned (.tuple #[.int .u64 (decNum s.data.toList), .int .i64 (decErr s.data.toList)]) ∧ Below w.heap.size w w' := by
  have hp := Tryd.strconv_ParseUint_10_at64_ok s (by omega) u h w
  have hi := fun w => is_no (u : Int) w (by omega)
  have hp' : Calls Tryd.prog 23 #[.string s, .int .i64 10, .int .i64 64] w fun e w' => e = .returned (.tuple #[.int .u64 u, .nilIface]) ∧ Below w.heap.size w w' := hp.mono fun e w' ⟨he, hw⟩ => ⟨he, by
    rcases hw with rfl | rfl
    · exact Below.refl _ _
    · exact Lib.bytesWorld_below _ _ _⟩
  have hfin : Hid (decNum s.data.toList = 0 ∧ decErr s.data.toList = 2) := by
    unfold decNum decErr; rw [h]; simp only; rw [if_neg (fun hh => by omega), if_neg (fun hh => by omega)]; exact ⟨rfl, rfl⟩
  clear hp h
  go_enter Tryd.func13, Tryd.ntmps13
  go_wp2_with (first | (go_at_call 23; refine hp'.mono ?_; rintro e w1 ⟨rfl, hb⟩; have hb' : Hid _ := hb; clear hb) | (go_at_call 19; refine (hi _).mono ?_; rintro e w' ⟨rfl, rfl⟩))
  go_ret2
  rw [hfin.out.1, hfin.out.2]
  exact ⟨rfl, hb'.out⟩

set_option maxRecDepth 100000 in
set_option maxHeartbeats 1000000 in
theorem parseDec_err (s : ByteArray) (v : Int) (T : TypeId) (w : World)
    (hp' : Calls Tryd.prog 23 #[.string s, .int .i64 10, .int .i64 64] w fun e w' => ∃ N, e = .returned (.tuple #[.int .u64 v, .iface T (.pointer (some ⟨N, 0, none⟩))]) ∧ Below w.heap.size w w')
    (hfin : Hid (decNum s.data.toList = 0 ∧ decErr s.data.toList = 2)) :
    Calls Tryd.prog 13 #[.string s] w fun e w' => e = .returned (.tuple #[.int .u64 (decNum s.data.toList), .int .i64 (decErr s.data.toList)]) ∧ Below w.heap.size w w' := by
  go_enter Tryd.func13, Tryd.ntmps13
  go_wp2_with (first | (go_at_call 23; refine hp'.mono ?_; rintro e w1 ⟨N, rfl, hb⟩; have hb' : Hid _ := hb; clear hb))
  go_ret2
  rw [hfin.out.1, hfin.out.2]
  exact ⟨rfl, hb'.out⟩

/-- ParseDecimal, at every text. -/
theorem parseDecimal_any (s : ByteArray) (w : World) (hv : Vars w) (hs : s.size ≤ 281474976710656) :
    Calls Tryd.prog 13 #[.string s] w fun e w' => e = .returned (.tuple #[.int .u64 (decNum s.data.toList), .int .i64 (decErr s.data.toList)]) ∧ Below w.heap.size w w' := by
  cases h : Lib.parseUintB 64 s.data.toList with
  | ok u =>
    by_cases hu : u < 9223372036854775808
    · exact parseDec_ok s u w hv hs h hu
    · exact parseDec_big s u w hs h (by omega)
  | «syntax» =>
    obtain ⟨te, pe, hc⟩ := hv.syn
    refine parseDec_err s 0 123 w ((Tryd.strconv_ParseUint_10_at64_syntax s hs h _ w hc (.inr ⟨te, pe, rfl⟩)).mono ?_) ?_
    · rintro e w' ⟨N, he, _, _, hb⟩; exact ⟨N, he, hb⟩
    · unfold decNum decErr; rw [h]; exact ⟨rfl, rfl⟩
  | range =>
    obtain ⟨te, pe, hc⟩ := hv.rng
    refine parseDec_err s 18446744073709551615 123 w ((Tryd.strconv_ParseUint_10_at64_range s hs h _ w hc (.inr ⟨te, pe, rfl⟩)).mono ?_) ?_
    · rintro e w' ⟨N, he, _, _, hb⟩; exact ⟨N, he, hb⟩
    · unfold decNum decErr; rw [h]; exact ⟨rfl, rfl⟩

set_option maxHeartbeats 400000 in
/-- ParseShort, at every text. -/
theorem parseShort_any (s : ByteArray) (w : World) :
    Calls Tryd.prog 12 #[.string s] w fun e w' => e = .returned (.tuple #[.int .u64 (readNum s), .int .i64 (readErr s)]) ∧ w' = w := by
  have hr : Calls Tryd.prog 22 #[.string s] w fun e w' => e = .returned (.tuple #[.int .u64 (readNum s), .int .i64 (readErr s)]) ∧ w' = w := by
    by_cases h : s.size = 13
    · exact read_any s w h
    · have h1 : readNum s = 0 := by unfold readNum; rw [if_neg (fun hh => h hh.1)]
      have h2 : readErr s = 2 := by unfold readErr; rw [if_neg (fun hh => h hh.1)]
      rw [h1, h2]
      exact read_len s w h
  go_enter Tryd.func12, Tryd.ntmps12
  go_wp2_with (go_at_call 22; refine hr.mono ?_; rintro e w' ⟨rfl, rfl⟩)
  go_ret2
  exact ⟨rfl, rfl⟩
end Go.Proofs.YtdplffhieekfaaaDoor
