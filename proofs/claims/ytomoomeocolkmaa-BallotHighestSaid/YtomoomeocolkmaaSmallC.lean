/- What slices read as; boxes of ballots; b, Puts, Of, the document's Of; the document's Majority. -/
import Derived.Test.YtomoomeocolkmaaSmallB
import Derived.Laws.ResultCell
namespace Go.Proofs.Ytomoomeocolkmaa
open Go.RowKit
theorem rhalf_any (n : Int) (h : n ≤ 9223372036854775807) (w : World) : Calls Try.prog 21 #[.int .i64 n] w fun e w' => e = .returned (.int .i64 (half n)) ∧ w' = w := by
  unfold half
  by_cases h1 : n < 1
  · go_enter Try.func21, Try.ntmps21
    go_wp2
    go_ret
    exact ⟨by simp_all, rfl⟩
  · have hq : n.tdiv 2 = n / 2 := Int.tdiv_eq_ediv_of_nonneg (by omega)
    have hw : wrap64 (n / 2 + 1) = n / 2 + 1 := by unfold wrap64; omega
    have hw2 : wrap64 (n / 2) = n / 2 := by unfold wrap64; omega
    rw [if_neg h1]
    obtain ⟨N, rfl⟩ : ∃ N : Nat, n = N := ⟨n.toNat, by omega⟩
    go_enter Try.func21, Try.ntmps21
    go_wp2
    all_goals go_ret
    all_goals exact ⟨by simp_all, rfl⟩
/-- the slice v reads as l, each of k cells -/
def RowAt {α : Type} (P : World → α → Prop) (k : Nat) (enc : α → List Value) (w : World) (v : Value) (l : List α) : Prop :=
  ∃ a cap, v = .slice a l.length cap ∧ l.length ≤ 9223372036854775807 ∧ l.length ≤ cap ∧ (a = none → cap = 0) ∧ (0 < l.length → ∃ b off, a = some ⟨b, off, none⟩ ∧ b < w.heap.size ∧ ∀ (j : Nat) x, l[j]? = some x → P w x ∧ ∀ r, r < k → w.cell? ⟨b, off + j * k + r, none⟩ = (enc x)[r]?)
theorem RowAt.below {α : Type} {P : World → α → Prop} {k : Nat} {enc : α → List Value} {w w' : World} {v : Value} {l : List α} (h : RowAt P k enc w v l) (hb : Below w.heap.size w w') (hP : ∀ x, P w x → P w' x) : RowAt P k enc w' v l := by
  obtain ⟨a, cap, hv, hl, hlc, hn, h⟩ := h
  refine ⟨a, cap, hv, hl, hlc, hn, fun h0 => ?_⟩
  obtain ⟨b, off, ha, hbl, hc⟩ := h h0
  refine ⟨b, off, ha, by have := hb.size; omega, fun j q hj => ?_⟩
  obtain ⟨hok, hr⟩ := hc j q hj
  exact ⟨hP _ hok, fun r hr' => by rw [hb.cell (show (⟨b, off + j * k + r, none⟩ : Addr).block < _ from hbl)]; exact hr r hr'⟩
abbrev NumsAt (w : World) (v : Value) (l : List Int) : Prop := RowAt (fun _ x => 0 ≤ x ∧ x ≤ 18446744073709551615) 1 (fun x => [.int .u64 x]) w v l
abbrev IntsAt (w : World) (v : Value) (l : List Int) : Prop := RowAt (fun _ x => -9223372036854775808 ≤ x ∧ x ≤ 9223372036854775807) 1 (fun x => [.int .i64 x]) w v l
abbrev BsAt (w : World) (v : Value) (l : List BV) : Prop := RowAt (fun _ q => q.ok) 3 BV.cells w v l
theorem NumsAt.below {w w' : World} {v : Value} {l : List Int} (h : NumsAt w v l) (hb : Below w.heap.size w w') : NumsAt w' v l := RowAt.below h hb fun _ h => h
theorem IntsAt.below {w w' : World} {v : Value} {l : List Int} (h : IntsAt w v l) (hb : Below w.heap.size w w') : IntsAt w' v l := RowAt.below h hb fun _ h => h
theorem BsAt.below {w w' : World} {v : Value} {l : List BV} (h : BsAt w v l) (hb : Below w.heap.size w w') : BsAt w' v l := RowAt.below h hb fun _ h => h
/-- block g holds the ballot q -/
def Box3 (w : World) (g : Nat) (q : BV) : Prop := w.heap[g]? = some (.cells #[.int .u64 q.r, .int .i64 q.n, .int .u64 q.i] 24 (0, 0))
theorem Box3.new (w : World) (q : BV) : Box3 (w.alloc (.cells #[.int .u64 q.r, .int .i64 q.n, .int .u64 q.i] 24)) w.heap.size q := heap_alloc_new _ _
theorem Box3.lt {w : World} {g : Nat} {q : BV} (h : Box3 w g q) : g < w.heap.size := lt_of_block h
theorem Box3.below {w w' : World} {B g : Nat} {q : BV} (h : Box3 w g q) (hb : Below B w w') (hB : g < B) : Box3 w' g q := (hb.block _ hB).trans h
theorem Box3.c0 {w : World} {g : Nat} {q : BV} (h : Box3 w g q) : w.cell? ⟨g, 0, none⟩ = some (.int .u64 q.r) := by rw [Go.Joins.cell_of_block h]; rfl
theorem Box3.c1 {w : World} {g : Nat} {q : BV} (h : Box3 w g q) : w.cell? ⟨g, 1, none⟩ = some (.int .i64 q.n) := by rw [Go.Joins.cell_of_block h]; rfl
theorem Box3.c2 {w : World} {g : Nat} {q : BV} (h : Box3 w g q) : w.cell? ⟨g, 2, none⟩ = some (.int .u64 q.i) := by rw [Go.Joins.cell_of_block h]; rfl
theorem Box3.fz {w : World} {g : Nat} {q : BV} (h : Box3 w g q) (j : Nat) : w.frozen? ⟨g, j, none⟩ = false := by unfold Box3 at h; simp [World.frozen?, h]
/-- a ballot is stored in a box -/
def put3 (w : World) (g : Nat) (q : BV) : World := ((w.setCell ⟨g, 0, none⟩ (.int .u64 q.r)).setCell ⟨g, 1, none⟩ (.int .i64 q.n)).setCell ⟨g, 2, none⟩ (.int .u64 q.i)
theorem Box3.put {w : World} {g : Nat} {q : BV} (h : Box3 w g q) (q' : BV) : Box3 (put3 w g q') g q' := by
  unfold put3
  exact Go.Joins.block_setCell (Go.Joins.block_setCell (Go.Joins.block_setCell h _) _) _
theorem put3_chg (w : World) (g : Nat) (q : BV) : Chg (fun k => k = g) w (put3 w g q) :=
  (((Chg.refl (fun k => k = g) w).setCell (p := ⟨g, 0, none⟩) (.inl rfl) _).setCell (p := ⟨g, 1, none⟩) (.inl rfl) _).setCell (p := ⟨g, 2, none⟩) (.inl rfl) _
theorem results_bal {fn : Func} {p u : Tmp} (h : fn.results = #[.cell p 24, .tmp u]) (tmps : Array Value) (w : World) (g : Nat) (q : BV) (hp : tmps.getD p undef = .pointer (some ⟨g, 0, none⟩)) (hg : Box3 w g q) :
    (results fn tmps).run Try.prog w = .ok (.tuple #[q.val, tmps.getD u undef]) w := by
  rw [results_cell_tmp h, hp]
  simp [asAddr, Result.andThen, run_loadVar_row w g 24 24 _ _ _ hg Try.underlying24 rfl (by kernel_rfl)]
theorem b_any (r n i : Int) (w : World) : Calls Try.prog 27 #[.int .u64 r, .int .i64 n, .int .u64 i] w fun e w' => e = .returned (BV.val ⟨r, n, i⟩) ∧ Below w.heap.size w w' := by
  go_enter Try.func27, Try.ntmps27
  go_wp2
  refine bodyPost_ret (results_cell_row rfl _ _ w.heap.size 24 _ (0, 0) _ rfl (heap_alloc_new _ _) Try.underlying24 rfl (by kernel_rfl)) rfl ⟨rfl, Go.Joins.below_alloc1 w _⟩
def BV.puts (q : BV) : List Int := [q.r, max q.n 0, q.i]
set_option maxRecDepth 100000 in
theorem puts_any (q : BV) (hq : q.ok) (w : World) : Calls Try.prog 11 #[q.val] w fun e w' => ∃ g, e = .returned (.slice (some ⟨g, 0, none⟩) 3 3) ∧ w.heap.size ≤ g ∧ NumsAt w' (.slice (some ⟨g, 0, none⟩) 3 3) q.puts ∧ Below w.heap.size w w' := by
  obtain ⟨r, n, i⟩ := q
  obtain ⟨h1, h2, h3⟩ := hq
  dsimp only at h1 h2 h3
  have HF : Hid (∀ o, Below w.heap.size w ((w.alloc o).alloc (.cells #[.int .u64 r, .int .u64 (max n 0), .int .u64 i] 22)) ∧ NumsAt ((w.alloc o).alloc (.cells #[.int .u64 r, .int .u64 (max n 0), .int .u64 i] 22)) (.slice (some ⟨w.heap.size + 1, 0, none⟩) 3 3) (BV.puts ⟨r, n, i⟩)) := fun o => by
    refine ⟨Go.Joins.below_alloc2 w _ _, some ⟨w.heap.size + 1, 0, none⟩, 3, rfl, by simp [BV.puts], by simp [BV.puts], (fun h => by cases h), fun _ => ⟨_, 0, rfl, by simp [World.size_alloc], fun j x hj => ?_⟩⟩
    have hs : w.heap.size + 1 = (w.alloc o).heap.size := by simp [World.size_alloc]
    have hj3 := (List.getElem?_eq_some_iff.1 hj).1
    simp only [BV.puts, List.length_cons, List.length_nil] at hj3
    rcases (show j = 0 ∨ j = 1 ∨ j = 2 by omega) with rfl | rfl | rfl
    · simp [BV.puts] at hj; subst hj
      refine ⟨by omega, fun t ht => ?_⟩
      obtain rfl : t = 0 := by omega
      rw [hs, World.cell?_alloc_new]; rfl
    · simp [BV.puts] at hj; subst hj
      refine ⟨by omega, fun t ht => ?_⟩
      obtain rfl : t = 0 := by omega
      rw [hs, World.cell?_alloc_new]; rfl
    · simp [BV.puts] at hj; subst hj
      refine ⟨by omega, fun t ht => ?_⟩
      obtain rfl : t = 0 := by omega
      rw [hs, World.cell?_alloc_new]; rfl
  by_cases hn : 0 ≤ n
  · have e : max n 0 = n := Int.max_eq_left hn
    have e3 : n % 18446744073709551616 = n := by omega
    rw [e] at HF
    clear h1 h2 h3
    go_enter Try.func11, Try.ntmps11
    go_wp2
    go_ret
    exact ⟨_, rfl, by omega, (HF.out _).2, (HF.out _).1⟩
  · have e : max n 0 = 0 := Int.max_eq_right (by omega)
    rw [e] at HF
    clear h1 h2 h3
    go_enter Try.func11, Try.ntmps11
    go_wp2
    go_ret
    exact ⟨_, rfl, by omega, (HF.out _).2, (HF.out _).1⟩
end Go.Proofs.Ytomoomeocolkmaa
