/- plan's all, of a row of places. -/
import Derived.Test.YtpihogkhfmijcaaMayN
import Derived.Test.YtpihogkhfmijcaaDel
namespace Go.Proofs.Ytpihogkhfmijcaa
open Go.RowKit Go.Maps Go.Shelf
theorem not_may {B : Nat} (x : PL) (W : World) (hB : W.cell? ⟨B, 0, none⟩ = some (.func (.func 60) #[] #[])) :
    Calls Try.prog 68 #[x.val, .pointer (some ⟨B, 0, none⟩)] W fun e w' => e = .returned (.bool (!x.may)) ∧ Below W.heap.size W w' := by
  have hbl : B < W.heap.size := World.block_lt_of_cell? W _ hB
  have HB := Lib.hid (Go.Joins.below_alloc1 W (.cells #[.int .i64 x.n, .int .u64 x.s] 38))
  have hB2 : (W.alloc (.cells #[.int .i64 x.n, .int .u64 x.s] 38)).cell? ⟨B, 0, none⟩ = some (.func (.func 60) #[] #[]) := (HB.out.cell (p := ⟨B, 0, none⟩) hbl).trans hB
  have HP := Lib.hid (planPlace_any x (W.alloc (.cells #[.int .i64 x.n, .int .u64 x.s] 38)))
  have hen := enters_of (P := Try.prog) (f := 60) Try.func60 (by kernel_rfl) rfl
  obtain ⟨m, hm⟩ : ∃ m, x.may = m := ⟨_, rfl⟩
  rw [hm] at HP ⊢
  clear hm hB
  go_enter Try.func68, Try.ntmps68
  go_wp2_with fail
  refine HP.out.mono ?_
  rintro e w1 ⟨rfl, hb⟩
  have HF := Lib.hid (HB.out.trans (hb.mono HB.out.size))
  clear hb
  go_wp2
  go_ret
  exact ⟨rfl, HF.out⟩
theorem asks111 {B : Nat} (W : World) (hB : W.cell? ⟨B, 0, none⟩ = some (.func (.func 60) #[] #[])) : AsksAt W 68 (.pointer (some ⟨B, 0, none⟩)) (fun x => !x.may) :=
  ⟨enters_of Try.func68 (by kernel_rfl) rfl, fun W' hW x _ => not_may x W' ((hW.cell (p := ⟨B, 0, none⟩) (World.block_lt_of_cell? W _ hB)).trans hB)⟩
theorem allP_any (v : Value) (l : List PL) (w : World) (hp : PsAt w v l) :
    Calls Try.prog 59 #[v, .func (.func 60) #[] #[]] w fun e w' => e = .returned (.bool (l.all PL.may)) ∧ Below w.heap.size w w' := by
  have HB := Lib.hid (Go.Joins.below_alloc1 w (.cells #[.func (.func 60) #[] #[]] 83))
  have HC := Lib.hid (contains_any v l 68 (.pointer (some ⟨w.heap.size, 0, none⟩)) (fun x => !x.may) _ (hp.below HB.out) (asks111 _ (by rw [World.cell?_alloc_new]; rfl)))
  obtain ⟨m, hm⟩ : ∃ m, (l.any fun x => !x.may) = m := ⟨_, rfl⟩
  have hall : l.all PL.may = !m := by rw [← hm]; simp [List.all_eq_not_any_not]
  rw [hall]
  rw [hm] at HC
  have hmf : ∀ (fn : Fn) (first cap : Array Value) (w : World), (Instr.makeFunc fn first cap).run Try.prog w = .ok (.func fn first cap) w := fun _ _ _ _ => rfl
  clear hm hall hp
  go_enter Try.func59, Try.ntmps59
  go_wp2_with fail
  refine HC.out.mono ?_
  rintro e w1 ⟨rfl, hb⟩
  have HF := Lib.hid (HB.out.trans (hb.mono HB.out.size))
  clear hb
  go_wp2
  go_ret
  exact ⟨rfl, HF.out⟩
end Go.Proofs.Ytpihogkhfmijcaa
