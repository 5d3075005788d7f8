/- == of places; the document's Has, Same, node; MayPlace. -/
import Derived.Test.YtpihogkhfmijcaaCount
import Derived.Laws.StructEq
import Derived.Deep.MidRow
namespace Go.Proofs.Ytpihogkhfmijcaa
open Go.RowKit Go.Maps Go.Shelf
theorem drewN_below {B : Nat} {a w : World} (h : Below B a w) (q : Nat) : Below B a (w.drewN q) := ⟨h.os, h.tape, h.output, h.size, h.block⟩
theorem eqIn38 (a b : PL) (d : Nat) (w : World) : (Op.equalIn (d + 1 + 1) 38 a.val b.val).run Try.prog w = .ok (decide (a = b)) w := by
  have u3 := Try.underlying3
  have a3 := Try.isAgg3
  have z3 := Try.sizeOf3
  have u22 := Try.underlying22
  have a22 := Try.isAgg22
  have z22 := Try.sizeOf22
  have hS : Try.prog.underlying 38 = some (.struct (Try.prog.fieldsOf 38)) := by kernel_rfl
  have hp : Try.prog.stoodInHeld 38 = false := by kernel_rfl
  obtain ⟨r, n⟩ := a
  obtain ⟨s, m⟩ := b
  have e : (decide ((⟨r, n⟩ : PL) = ⟨s, m⟩)) = (r == s && n == m) := by
    rw [Bool.eq_iff_iff]
    simp only [decide_eq_true_eq, Bool.and_eq_true, beq_iff_eq]
    exact ⟨fun h => by injection h with h1 h2; exact ⟨h1, h2⟩, fun h => PL.ext' h.1 h.2⟩
  rw [e, run_equalIn_agg w (d + 1) 38 _ _ hS hp]
  simp only [Program.fieldsOf, Try.underlying38]
  go_simp
  by_cases h1 : r = s <;> by_cases h2 : n = m <;> simp [h1, h2]
theorem eql38 (a b : PL) (w : World) : (binOp .eql 38 a.val b.val).run Try.prog w = .ok (.bool (decide (a = b))) w := by
  rw [run_eql_struct, show (10000 : Nat) = 9998 + 1 + 1 from rfl, eqIn38]; rfl
theorem neq38 (a b : PL) (w : World) : (binOp .neq 38 a.val b.val).run Try.prog w = .ok (.bool (!decide (a = b))) w := by
  rw [run_neq_struct, show (10000 : Nat) = 9998 + 1 + 1 from rfl, eqIn38]; rfl
theorem guard38 : Try.prog.eqGuardType Try.prog.depth 38 = false := by kernel_rfl
theorem contains_snoc {l : List PL} {k : Nat} {x y : PL} (h : l[k]? = some y) : (l.take (k + 1)).contains x = ((l.take k).contains x || decide (x = y)) := by
  rw [take_snoc h]
  simp only [List.contains_eq_mem, List.mem_append, List.mem_singleton, Bool.decide_or]
theorem take_eq_snoc {l m : List PL} {k : Nat} {x y : PL} (h : l.take k = m.take k) (hx : l[k]? = some x) (hy : m[k]? = some y) : l.take (k + 1) = m.take (k + 1) ↔ x = y := by
  rw [take_snoc hx, take_snoc hy, h]
  simp
/-- a place that may be -/
def PL.may (p : PL) : Bool := decide (0 < p.n) && decide (p.n ≤ 15) && (decide (0 < p.s) && decide (p.s ≤ 4611686018427387903))
end Go.Proofs.Ytpihogkhfmijcaa
