/-
  package record: Read, Begins, Write.
-/
import Derived.Test.YtdplffhieekfaaaBack
import Derived.BigQuiet
namespace Go.Proofs.Ytdplffhieekfaaa
open Go.RowKit

theorem bytes_eq (t s : ByteArray) : (t.toList == s.toList) = decide (t = s) := by
  rw [ByteArray.toList_eq, ByteArray.toList_eq]
  by_cases h : t = s
  · subst h; simp
  · rw [decide_eq_false h]
    simp only [beq_eq_false_iff_ne, ne_eq]
    intro e
    exact h (ByteArray.ext (Array.toList_inj.1 e))

set_option maxRecDepth 100000 in
set_option maxHeartbeats 1000000 in
theorem rread_err (s : ByteArray) (w : World) (h : s.size = 13) (he : readErr s ≠ 0) :
    Calls Try.prog 42 #[.string s] w fun e w' => e = .returned (.tuple #[.int .i64 0, .int .i64 0, .int .i64 2]) ∧ Below w.heap.size w w' := by
  have hr := read_any s w h
  have hn := readNum_lt s h
  have hs := fun w => split_any (readNum s : Int) w (by omega) (by omega)
  have hb : (readErr s != 0) = true := by simpa using he
  clear he hn
  go_enter Try.func42, Try.ntmps42
  go_wp2_with fail
  refine hr.mono ?_
  rintro e w1 ⟨rfl, rfl⟩
  clear hr
  go_wp2_with fail
  refine (hs _).mono ?_
  rintro e w2 ⟨rfl, hb2⟩
  have hb2 : Hid _ := hb2
  go_wp2
  go_ret3
  exact ⟨rfl, hb2.out.alloc hb2.out.size _⟩

set_option maxRecDepth 100000 in
set_option maxHeartbeats 1000000 in
theorem rread_seq (s : ByteArray) (w : World) (h : s.size = 13) (he : readErr s = 0) (hq : readNum s % 4096 ≠ 4095) :
    Calls Try.prog 42 #[.string s] w fun e w' => e = .returned (.tuple #[.int .i64 0, .int .i64 0, .int .i64 2]) ∧ Below w.heap.size w w' := by
  have hr := read_any s w h
  have hn := readNum_lt s h
  have hs := fun w => split_any (readNum s : Int) w (by omega) (by omega)
  rw [he] at hr
  have hb : ((readNum s : Int) % 4096 != 4095) = true := by simp; omega
  clear he hn hq
  go_enter Try.func42, Try.ntmps42
  go_wp2_with fail
  refine hr.mono ?_
  rintro e w1 ⟨rfl, rfl⟩
  clear hr
  go_wp2_with fail
  refine (hs _).mono ?_
  rintro e w2 ⟨rfl, hb2⟩
  have hb2 : Hid _ := hb2
  go_wp2
  go_ret3
  exact ⟨rfl, hb2.out.alloc hb2.out.size _⟩

set_option maxRecDepth 100000 in
set_option maxHeartbeats 1000000 in
theorem rread_text (s : ByteArray) (w : World) (h : s.size = 13) (he : readErr s = 0) (hq : readNum s % 4096 = 4095) (ht : (⟨(shortOf (readNum s)).toArray⟩ : ByteArray) ≠ s) :
    Calls Try.prog 42 #[.string s] w fun e w' => e = .returned (.tuple #[.int .i64 0, .int .i64 0, .int .i64 2]) ∧ Below w.heap.size w w' := by
  have hr := read_any s w h
  have hn := readNum_lt s h
  have hs := fun w => split_any (readNum s : Int) w (by omega) (by omega)
  have hwr := fun w => write_any (readNum s) w hn
  rw [he] at hr
  have hb : ((readNum s : Int) % 4096 != 4095) = false := by simp; omega
  have hte : ((⟨(shortOf (readNum s)).toArray⟩ : ByteArray).toList == s.toList) = false := by rw [bytes_eq]; exact decide_eq_false ht
  clear he hn hq ht
  generalize (⟨(shortOf (readNum s)).toArray⟩ : ByteArray) = t at *
  go_enter Try.func42, Try.ntmps42
  go_wp2_with fail
  refine hr.mono ?_
  rintro e w1 ⟨rfl, rfl⟩
  clear hr
  go_wp2_with fail
  refine (hs _).mono ?_
  rintro e w2 ⟨rfl, hb2⟩
  have hb2 : Hid _ := hb2
  go_wp2_with fail
  refine (hwr _).mono ?_
  rintro e w3 ⟨rfl, hb3⟩
  have hb3 : Hid _ := hb3
  go_wp2
  go_ret3
  exact ⟨rfl, (hb2.out.alloc hb2.out.size _).trans (hb3.out.mono (by simp; exact Nat.le_succ_of_le hb2.out.size))⟩

set_option maxRecDepth 100000 in
set_option maxHeartbeats 1000000 in
theorem rread_ok (s : ByteArray) (w : World) (h : s.size = 13) (ho : recOk s) :
    Calls Try.prog 42 #[.string s] w fun e w' => e = .returned (.tuple #[.int .i64 (recNode s), .int .i64 (recTo s), .int .i64 0]) ∧ Below w.heap.size w w' := by
  obtain ⟨he, hq, ht⟩ := ho
  have hr := read_any s w h
  have hn := readNum_lt s h
  have hs := fun w => split_any (readNum s : Int) w (by omega) (by omega)
  have hwr := fun w => write_any (readNum s) w hn
  rw [he] at hr
  have hb : ((readNum s : Int) % 4096 != 4095) = false := by simp; omega
  have hte : ((⟨(shortOf (readNum s)).toArray⟩ : ByteArray).toList == s.toList) = true := by rw [bytes_eq]; exact decide_eq_true ht
  have e1 : ((recNode s : Nat) : Int) = (readNum s : Int) / 4096 % 1024 := by unfold recNode; omega
  have e2 : ((recTo s : Nat) : Int) = (readNum s : Int) / 4194304 + 1 := by unfold recTo; omega
  have hx : (readNum s : Int) / 4194304 < 2199023255552 := by omega
  have hx0 : 0 ≤ (readNum s : Int) / 4194304 := by omega
  rw [e1, e2]
  clear he hn hq ht e1 e2
  generalize (⟨(shortOf (readNum s)).toArray⟩ : ByteArray) = t at *
  generalize (readNum s : Int) / 4194304 = tm at *
  generalize (readNum s : Int) / 4096 % 1024 = nd at *
  go_enter Try.func42, Try.ntmps42
  go_wp2_with fail
  refine hr.mono ?_
  rintro e w1 ⟨rfl, rfl⟩
  clear hr
  go_wp2_with fail
  refine (hs _).mono ?_
  rintro e w2 ⟨rfl, hb2⟩
  have hb2 : Hid _ := hb2
  go_wp2_with fail
  refine (hwr _).mono ?_
  rintro e w3 ⟨rfl, hb3⟩
  have c0 : w3.cell? ⟨w2.heap.size, 0, none⟩ = some (.int .i64 tm) := ((bcell hb3).1 w2.heap.size 0 (by simp)).trans (cell_alloc_new w2 _ _ 0).1
  have c1 : w3.cell? ⟨w2.heap.size, 1, none⟩ = some (.int .i64 nd) := ((bcell hb3).1 w2.heap.size 1 (by simp)).trans (cell_alloc_new w2 _ _ 1).1
  have hb3 : Hid _ := hb3
  go_wp2
  go_quiet (fail)
  go_wp2
  go_ret3
  exact ⟨rfl, below_drewN ((hb2.out.alloc hb2.out.size _).trans (hb3.out.mono (by simp; exact Nat.le_succ_of_le hb2.out.size))) _⟩
end Go.Proofs.Ytdplffhieekfaaa
