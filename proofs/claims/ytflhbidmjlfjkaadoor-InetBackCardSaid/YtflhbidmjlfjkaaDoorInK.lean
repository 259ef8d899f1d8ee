/- What a row's listed variables and the world's shape say of the library's variables. -/
import Derived.Test.YtflhbidmjlfjkaaDoorInH
import Derived.Test.YtflhbidmjlfjkaaDoorRows
import Derived.LaidSub
import Derived.LaidLaws
import Derived.FnData
import Derived.Shelf.Vars
namespace Go.Proofs.YtflhbidmjlfjkaaDoor
open Go Go.RowKit
set_option linter.unusedVariables false

theorem err_cell {w : World} {g : Nat} {nm : String} {d : DataW Unit} (hg2 : Tryd.prog.globalNamed nm = some g) (ht2 : (Tryd.prog.globals[g]?).map (·.type) = some 117) (hd : ∃ s p, d = .iface s p) (h : laidMet Tryd.prog [(nm, d)] w) : ∃ te pe, w.cell? ⟨g, 0, none⟩ = some (.iface te pe) := by
  obtain ⟨ps, hl, _, _⟩ := h
  obtain ⟨g', t, cs, fuel, p, q, hg, ht, hv, htr, _, _⟩ := hl
  rw [hg2] at hg
  obtain rfl : g = g' := by simpa using hg
  rw [ht2] at ht
  obtain rfl : 117 = t := by simpa using ht
  obtain ⟨s, pp, rfl⟩ := hd
  obtain ⟨_, u, v, hcs, _, _⟩ := iface_of_trod Tryd.underlying117 htr
  have hc := World.var?_cell hg2 hv 0
  have h0 : cs[0]? = some (.iface u v) := by
    have : cs.toList[0]? = some (Value.iface u v) := by rw [hcs]; rfl
    simpa using this
  rw [h0] at hc
  exact ⟨u, v, hc⟩
theorem gl_of {w : World} {l : List (String × DataW Unit)} (h : laidMetH Tryd.prog l w) (hsh : w.ShapedOpen Tryd.prog)
    (e1 : l.filter (fun x => x.1 == "strconv.ErrSyntax") = [("strconv.ErrSyntax", Rows.laid_strconv_ErrSyntax)])
    (e2 : l.filter (fun x => x.1 == "strconv.ErrRange") = [("strconv.ErrRange", Rows.laid_strconv_ErrRange)])
    (e3 : l.filter (fun x => x.1 == "internal/strconv.uint64pow10") = [("internal/strconv.uint64pow10", Rows.laid_internal_strconv_uint64pow10)]) : Gl w := by
  have h1 := h.filter (fun x => x.1 == "strconv.ErrSyntax")
  have h2 := h.filter (fun x => x.1 == "strconv.ErrRange")
  have h3 := h.filter (fun x => x.1 == "internal/strconv.uint64pow10")
  rw [e1] at h1
  rw [e2] at h2
  rw [e3] at h3
  have k1 : laidMet Tryd.prog [("strconv.ErrSyntax", Rows.laid_strconv_ErrSyntax)] w := h1
  have k2 : laidMet Tryd.prog [("strconv.ErrRange", Rows.laid_strconv_ErrRange)] w := h2
  have k3 : laidMet Tryd.prog [("internal/strconv.uint64pow10", Rows.laid_internal_strconv_uint64pow10)] w := h3
  refine ⟨err_cell (by kernel_rfl) (by kernel_rfl) ⟨_, _, rfl⟩ k1, err_cell (by kernel_rfl) (by kernel_rfl) ⟨_, _, rfl⟩ k2, ?_, ?_⟩
  · exact cell_of_shapedOpen_int (P := Tryd.prog) (g := 0) (t := 3) (zero := #[.int .i64 0]) hsh (of_decide_eq_true (by kernel_rfl)) (by kernel_rfl) rfl (by kernel_rfl) (by kernel_rfl) Tryd.underlying3
  · exact Lib.tabIs_of_head (g := 3) (t := 152) (e := 108) (n := 20) (by kernel_rfl) (by kernel_rfl) (by kernel_rfl) Tryd.underlying108 (by kernel_rfl) (by kernel_rfl) k3
end Go.Proofs.YtflhbidmjlfjkaaDoor
