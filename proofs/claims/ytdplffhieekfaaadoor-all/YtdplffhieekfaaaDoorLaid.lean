/-
  What the listed variables give a walk (the table of powers of ten, the library's two errors), and a start that fits: the heap that the variables' own initialisers leave.
  Conditions: a list that holds the three.
-/
import Derived.Test.YtdplffhieekfaaaDoorCards
import Derived.Test.YtdplffhieekfaaaDoorTie
import Derived.Test.YtdplffhieekfaaaDoorParse
import Derived.WalkKit
import Derived.ProofKit
import Derived.OpenShut
import Derived.LaidMore
import Derived.LaidSub
import Derived.Stop.LaidErr
import Derived.Deep.DeepHandedRow
import Derived.Deep.DeepWitnessRowRef
import Derived.Lib.LaidTab
namespace Go.Proofs.YtdplffhieekfaaaDoor
open Go.ChangeShapes Go.WideShapes Go.ChangeAt Go.RowKit

theorem laid_own : ownKnob Tryd.prog.godebug = none := by kernel_rfl
theorem laid_gTab : Tryd.prog.globalNamed "internal/strconv.uint64pow10" = some 0 := by kernel_rfl
theorem laid_gSyn : Tryd.prog.globalNamed "strconv.ErrSyntax" = some 1 := by kernel_rfl
theorem laid_gRng : Tryd.prog.globalNamed "strconv.ErrRange" = some 2 := by kernel_rfl
theorem laid_tTab : (Tryd.prog.globals[(0 : Nat)]?).map (·.type) = some 136 := by kernel_rfl
theorem laid_tSyn : (Tryd.prog.globals[(1 : Nat)]?).map (·.type) = some 60 := by kernel_rfl
theorem laid_tRng : (Tryd.prog.globals[(2 : Nat)]?).map (·.type) = some 60 := by kernel_rfl
theorem laid_cTab : Tryd.prog.cellsOf 136 = 20 := by kernel_rfl
theorem laid_cU64 : Tryd.prog.cellsOf 25 = 1 := by kernel_rfl
theorem laid_cStr : Tryd.prog.cellsOf 9 = 1 := by kernel_rfl
theorem laid_cErr : Tryd.prog.cellsOf 152 = 1 := by kernel_rfl
theorem laid_star : "*" ++ "errors.errorString" = "*errors.errorString" := by decide
theorem laid_row (u : TypeId) (h : Tryd.prog.typeName? 3 u = some "*errors.errorString") : u = 150 :=
  typeName_ptr_named (nm := "errors.errorString") (by rw [laid_star]; kernel_rfl) (by kernel_rfl) (by decide) u (by rw [laid_star]; exact h)

theorem laid_one {l : List (String × DataW Unit)} {W : World} {n : String} {d : DataW Unit} (hf : (l.filter fun x => x.1 == n) = [(n, d)]) (hn : d.handleName?.isNone = true) (h : laidMetH Tryd.prog l W) : laidMet Tryd.prog [(n, d)] W := by
  have h1 := h.filter fun x => x.1 == n
  rw [hf, MakeChecks.laidMetH_plain _ _ _ (by simp [hn])] at h1
  exact h1

/-- From a row's list to what the walks ask. -/
theorem vars_of_laid {l : List (String × DataW Unit)} {W : World} (h : laidMetH Tryd.prog l W)
    (h1 : (l.filter fun x => x.1 == "internal/strconv.uint64pow10") = [("internal/strconv.uint64pow10", Rows.laid_internal_strconv_uint64pow10)])
    (h2 : (l.filter fun x => x.1 == "strconv.ErrSyntax") = [("strconv.ErrSyntax", Rows.laid_strconv_ErrSyntax)])
    (h3 : (l.filter fun x => x.1 == "strconv.ErrRange") = [("strconv.ErrRange", Rows.laid_strconv_ErrRange)]) : Vars W := by
  have t1 := laid_one h1 rfl h
  have t2 := laid_one h2 rfl h
  have t3 := laid_one h3 rfl h
  refine ⟨Lib.tabBelow_of_tabIs (Lib.tabIs_of_head (rest := []) laid_gTab laid_tTab Tryd.underlying136 Tryd.underlying25 laid_cU64 laid_cTab t1), ?_, ?_⟩
  · obtain ⟨a, s, hv, _⟩ := laid_sentinel t2 laid_gSyn laid_tSyn Tryd.underlying60 laid_row Tryd.underlying150 Tryd.underlying152 rfl rfl Tryd.underlying9 laid_cErr laid_cStr
    exact ⟨_, _, by simpa using World.var?_cell laid_gSyn hv 0⟩
  · obtain ⟨a, s, hv, _⟩ := laid_sentinel t3 laid_gRng laid_tRng Tryd.underlying60 laid_row Tryd.underlying150 Tryd.underlying152 rfl rfl Tryd.underlying9 laid_cErr laid_cStr
    exact ⟨_, _, by simpa using World.var?_cell laid_gRng hv 0⟩
end Go.Proofs.YtdplffhieekfaaaDoor
