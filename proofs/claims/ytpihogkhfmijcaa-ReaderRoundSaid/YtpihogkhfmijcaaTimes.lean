/- A map that counts places: what it reads as, a look-up, one more. -/
import Derived.Test.YtpihogkhfmijcaaBase
import Derived.Maps.OwnSet
import Derived.WideKeyEntry
import Derived.DeepKeys4
namespace Go.Proofs.Ytpihogkhfmijcaa
open Go.RowKit Go.Maps
open Go.WideElems (Fit)
open Go.ChangeMaps (setBlock)
theorem laidTwo : laidOutB Try.prog = true := by kernel_rfl
theorem row38 : 38 < Try.prog.types.size := of_decide_eq_true (by kernel_rfl)
theorem law38 : Go.WideMaps.KeyLaw Try.prog 38 := deep_law_laid laidTwo (m := 3) (by omega) row38 (by kernel_rfl) (by kernel_rfl)
theorem keyed38 : Keyed Try.prog 38 := Keyed.of_law law38
theorem keyType38 : Try.prog.keyType 38 = true := by kernel_rfl
theorem formed38 (a b : Value) : (Value.agg #[a, b]).formed Try.prog 38 = true := by kernel_rfl
theorem size38 : ∃ n, Try.prog.types.size + 1 = n + 2 := ⟨Try.prog.types.size - 1, by have := row38; omega⟩
theorem cellsOf38 : Try.prog.cellsOf 38 = 2 := by kernel_rfl
theorem cellsOf3 : Try.prog.cellsOf 3 = 1 := by kernel_rfl
theorem cellsOf22 : Try.prog.cellsOf 22 = 1 := by kernel_rfl
/-- what a place reads as, as a key -/
theorem key_some (p : PL) (h : p.ok) : ∃ k, keyOf Try.prog 38 p.val = some k := by
  obtain ⟨n, hn⟩ := size38
  obtain ⟨⟨h1, h2⟩, h3, h4⟩ := h
  have w1 : (Lit.int .i64 p.n).wf = true := WalkArith.wf_i64 ⟨h1, h2⟩
  have w2 : (Lit.int .u64 p.s).wf = true := by
    simp [Lit.wf, IntKind.min, IntKind.max, IntKind.signed, IntKind.bits]
    omega
  have e3 : Try.prog.keyLits (n + 1) 3 [.int .i64 p.n] = some [.int .i64 p.n] := by
    unfold Program.keyLits
    rw [Try.underlying3]
    simp [w1]
  have e22 : Try.prog.keyLits (n + 1) 22 [.int .u64 p.s] = some [.int .u64 p.s] := by
    unfold Program.keyLits
    rw [Try.underlying22]
    simp [w2]
  have e38 : Try.prog.keyLits (n + 2) 38 [.int .i64 p.n, .int .u64 p.s] = some [.int .i64 p.n, .int .u64 p.s] := by
    unfold Program.keyLits
    rw [Try.underlying38]
    simp [cellsOf38, cellsOf3, cellsOf22, e3, e22]
  unfold keyOf
  rw [Try.underlying38]
  simp only [keyType38, formed38, hn, Value.cells, e38]
  simp
theorem key_inj {p q : PL} {k : Lit} (h1 : keyOf Try.prog 38 p.val = some k) (h2 : keyOf Try.prog 38 q.val = some k) : p = q := by
  have := keyed38.inj h1 h2
  simp only [Value.agg.injEq] at this
  have e := congrArg Array.toList this
  simp at e
  exact PL.ext' e.1 e.2
/-- how many unlike ones -/
def dist (l : List PL) : Nat := l.eraseDups.length
theorem dist_nil : dist [] = 0 := rfl
theorem dist_snoc (l : List PL) (x : PL) : dist (l ++ [x]) = dist l + if x ∈ l then 0 else 1 := by
  unfold dist
  rw [List.eraseDups_append]
  by_cases h : x ∈ l <;> simp [h, List.removeAll, List.eraseDups_cons]
theorem dist_le (l : List PL) : ∀ r : List PL, dist (l ++ r) ≤ dist l + r.length := by
  intro r
  induction r generalizing l with
  | nil => simp
  | cons x r ih =>
    have := ih (l ++ [x])
    rw [dist_snoc] at this
    simp only [List.append_assoc, List.cons_append, List.nil_append] at this
    simp only [List.length_cons]
    split at this <;> omega
theorem dist_le_length (l : List PL) : dist l ≤ l.length := by
  have := dist_le [] l
  simp [dist_nil] at this
  exact this
/-- the map in block b counts the places l -/
def TimesAt (w : World) (b : Nat) (l : List PL) : Prop :=
  ∃ D : DataW Unit, w.ownsMap Try.prog 38 (plainElem Try.prog 3) b l.length D ∧ ∀ p k, keyOf Try.prog 38 p.val = some k → D.atKey k (.lit (.int .i64 0)) = .lit (.int .i64 (l.count p)) ∧ Maps.has D k = l.contains p
    ∧ Maps.size D = dist l
theorem TimesAt.lt {w : World} {b : Nat} {l : List PL} (h : TimesAt w b l) : b < w.heap.size := by
  obtain ⟨D, h, _⟩ := h
  exact h.lt
theorem TimesAt.block {w w' : World} {b : Nat} {l : List PL} (h : TimesAt w b l) (hb : w'.heap[b]? = w.heap[b]?) : TimesAt w' b l := by
  obtain ⟨D, ⟨es, clock, h1, h2⟩, h3⟩ := h
  exact ⟨D, ⟨es, clock, hb.trans h1, h2⟩, h3⟩
theorem TimesAt.below {w w' : World} {B b : Nat} {l : List PL} (h : TimesAt w b l) (hb : Below B w w') (hB : w.heap.size ≤ B) : TimesAt w' b l := h.block (hb.block b (by have := h.lt; omega))
theorem TimesAt.made (w : World) : TimesAt (w.alloc (.map #[] 0)) w.heap.size [] := ⟨_, World.ownsMap_made w _ _ _, fun p k _ => by simp [DataW.atKey, Maps.has, Maps.size, dist_nil]⟩
theorem zero3 (w : World) : (zeroValue 3).run Try.prog w = .ok (.int .i64 0) w := Try.zeroValue3 w
theorem count_lt (l : List PL) (p : PL) : l.count p ≤ l.length := List.count_le_length
end Go.Proofs.Ytpihogkhfmijcaa
