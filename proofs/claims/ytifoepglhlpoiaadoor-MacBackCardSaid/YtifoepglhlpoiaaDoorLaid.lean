/- What a row's listed variables say of the variable ErrSyntax of strconv. -/
import Derived.Test.YtifoepglhlpoiaaDoorMacP
import Derived.Test.YtifoepglhlpoiaaDoorRows
import Derived.LaidSub
import Derived.LaidLaws
import Derived.FnData
namespace Go.Proofs.YtifoepglhlpoiaaDoor
open Go Go.RowKit
set_option linter.unusedVariables false

theorem syn_of {w : World} {l : List (String × DataW Unit)} (h : laidMetH Tryd.prog l w) (e : l.filter (fun x => x.1 == "strconv.ErrSyntax") = [("strconv.ErrSyntax", Rows.laid_strconv_ErrSyntax)]) : Syn w := by
  have h1 := h.filter (fun x => x.1 == "strconv.ErrSyntax")
  rw [e] at h1
  have h2 : laidMet Tryd.prog [("strconv.ErrSyntax", Rows.laid_strconv_ErrSyntax)] w := h1
  obtain ⟨ps, hl, _, _⟩ := h2
  obtain ⟨g, t, cs, fuel, p, q, hg, ht, hv, htr, _, _⟩ := hl
  have hg2 : Tryd.prog.globalNamed "strconv.ErrSyntax" = some 1 := by kernel_rfl
  rw [hg2] at hg
  obtain rfl : 1 = g := by simpa using hg
  have ht2 : (Tryd.prog.globals[1]?).map (·.type) = some 69 := by kernel_rfl
  rw [ht2] at ht
  obtain rfl : 69 = t := by simpa using ht
  obtain ⟨_, u, v, hcs, _, _⟩ := iface_of_trod Tryd.underlying69 htr
  have hc := World.var?_cell hg2 hv 0
  have h0 : cs[0]? = some (.iface u v) := by
    have : cs.toList[0]? = some (Value.iface u v) := by rw [hcs]; rfl
    simpa using this
  rw [h0] at hc
  exact ⟨u, v, hc⟩
end Go.Proofs.YtifoepglhlpoiaaDoor
