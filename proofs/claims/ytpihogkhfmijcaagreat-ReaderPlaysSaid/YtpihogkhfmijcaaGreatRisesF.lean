/- plan's rises, of a row of fragments. -/
import Derived.Test.YtpihogkhfmijcaaGreatPFrag
import Derived.Deep.RegionLaw
namespace Go.Proofs.YtpihogkhfmijcaaGreat
open Go.RowKit Go.Maps Go.Shelf
theorem first_of (f : Int) (a : Option Addr) (n c : Nat) (W : World) : Calls Tryz.prog 60 #[.agg #[.int .u64 f, .slice a n c]] W fun e w' => e = .returned (.int .u64 f) ∧ Below W.heap.size W w' := by
  have HB := Lib.hid (Go.Joins.below_alloc1 W (.cells #[.int .u64 f, .slice a n c] 73))
  go_enter Tryz.func60, Tryz.ntmps60
  go_wp2
  go_ret
  exact ⟨rfl, HB.out⟩
/-- each fragment's first is less than the next one's -/
def RiseF (L : List FV) : Prop := ∀ i x y, L[i]? = some x → L[i + 1]? = some y → x.f < y.f
def RfPost (L : List FV) (w : World) (e : Ending) (w' : World) : Prop := ∃ R : Bool, e = .returned (.bool R) ∧ (R = true ↔ RiseF L) ∧ Below w.heap.size w w'
set_option linter.unusedSimpArgs false in
set_option maxRecDepth 100000 in
set_option maxHeartbeats 4000000 in
theorem risesF_any (a : Option Addr) (c : Nat) (L : List FV) (w : World) (h : FsAt w (.slice a L.length c) L) (hl : L.length ≤ 1000) :
    Calls Tryz.prog 59 #[.slice a L.length c, .func (.func 60) #[] #[]] w fun e w' => RfPost L w e w' := by
  obtain ⟨N, hN⟩ : ∃ N, L.length = N := ⟨_, rfl⟩
  have HH := Lib.hid h
  have HN := Lib.hid hN
  rw [hN] at HH hl ⊢
  have hen := enters_of (P := Tryz.prog) (f := 60) Tryz.func60 (by kernel_rfl) rfl
  clear h hN
  go_enter Tryz.func59, Tryz.ntmps59
  go_wp2
  go_loopw [5] (fun z wr => ∃ i : Nat, (i ≤ N ∨ i = 0) ∧ z = .int .i64 ((i : Int) + 1) ∧ Hid (∀ j x y, j < i → L[j]? = some x → L[j + 1]? = some y → x.f < y.f) ∧ Hid (Below w.heap.size w wr)) (fun z _ => N + 1 - (intOf z).toNat)
  case atStart => exact ⟨0, .inr rfl, rfl, (fun j x y hj => by omega), Below.refl _ _⟩
  case round =>
    obtain ⟨i, hi, rfl, HG, HB⟩ := hrel
    by_cases hlt : i + 1 < N
    · have hltz : (i : Int) + 1 < (N : Int) := by omega
      obtain ⟨x, hx⟩ : ∃ x, L[i]? = some x := ⟨_, List.getElem?_eq_getElem (by rw [HN.out]; omega)⟩
      obtain ⟨y, hy⟩ : ∃ y, L[i + 1]? = some y := ⟨_, List.getElem?_eq_getElem (by rw [HN.out]; omega)⟩
      obtain ⟨b, off, he, -, -, hc⟩ := FsAt.cell (HH.out.below HB.out) hx
      subst he
      obtain ⟨b', off', he, -, -, hc'⟩ := FsAt.cell (HH.out.below HB.out) hy
      cases he
      have HX := Lib.hid (And.intro hx hy)
      obtain ⟨f, xa, xc, xp⟩ := x
      obtain ⟨f2, ya, yc, yp⟩ := y
      dsimp only at hc hc'
      obtain ⟨E, hE⟩ : ∃ E, xp.length = E := ⟨_, rfl⟩
      obtain ⟨E2, hE2⟩ : ∃ E, yp.length = E := ⟨_, rfl⟩
      rw [hE] at hc
      rw [hE2] at hc'
      have HK := Lib.hid (show ∀ W, On wr W → (W.cell? ⟨b, off + i * 2, none⟩ = some (.int .u64 f) ∧ W.cell? ⟨b, off + i * 2 + 1, none⟩ = some (.slice xa E xc)) ∧ W.cell? ⟨b, off + (i + 1) * 2, none⟩ = some (.int .u64 f2) ∧ W.cell? ⟨b, off + (i + 1) * 2 + 1, none⟩ = some (.slice ya E2 yc) from fun W hW => ⟨hc W hW, hc' W hW⟩)
      obtain ⟨⟨c0, c1⟩, c2, c3⟩ := HK.out wr (Below.refl _ _)
      have HIX := Lib.hid (fun (W : World) => first_of f xa E xc W)
      have HIY := Lib.hid (fun (W : World) => first_of f2 ya E2 yc W)
      have HD := Lib.hid (show ∀ w1, Below wr.heap.size wr.drew w1 → On wr w1 from fun w1 h => (Below.drew (Below.refl _ wr)).trans h)
      have HON := Lib.hid (show ∀ w1, On wr w1 → Below w.heap.size w w1 from fun w1 h => HB.out.trans (Below.mono h HB.out.size))
      have q1 : ((i : Int) + 1).toNat = i + 1 := by omega
      have q2 : IntKind.i64.wrap ((i : Int) + 1 - 1) = (i : Int) := by rw [Int.add_sub_cancel]; exact wrap_small _ (by omega) (by omega)
      have q6 : IntKind.i64.wrap (i : Int) = (i : Int) := wrap_small _ (by omega) (by omega)
      have q3 : (0 : Int) ≤ (i : Int) := by omega
      have q4 : (i : Int) < (N : Int) := by omega
      have q5 : (0 : Int) ≤ (i : Int) + 1 := by omega
      clear hc hc' hx hy hE hE2
      by_cases hxy : f < f2
      · have dg : decide (f2 ≤ f) = false := decide_eq_false (by omega)
        have dg2 : decide (f ≥ f2) = false := decide_eq_false (by omega)
        have HGN := Lib.hid (show ∀ j p q, j < i + 1 → L[j]? = some p → L[j + 1]? = some q → p.f < q.f from fun j p q hj hp hq => by
          rcases Nat.lt_or_ge j i with h | h
          · exact HG.out j p q h hp hq
          · obtain rfl : j = i := by omega
            have e1 := HX.out.1
            have e2 := HX.out.2
            rw [hp] at e1
            rw [hq] at e2
            cases e1
            cases e2
            exact hxy)
        clear hxy
        go_wp2_with fail
        go_region_law (first
          | (go_simp; (with_reducible refine Calls.mono (HIX.out _) ?_); rintro e w1 ⟨rfl, hb1⟩; have HB1 := Lib.hid (HD.out w1 hb1); obtain ⟨⟨d0, d1⟩, d2, d3⟩ := HK.out w1 HB1.out; clear hb1)
          | (go_simp; (with_reducible refine Calls.mono (HIY.out _) ?_); rintro e w2 ⟨rfl, hb2⟩; have HB2 := Lib.hid (HON.out w2 (On.step HB1.out hb2)); clear hb2))
        all_goals go_wp2
        all_goals go_roundw
        all_goals (first | exact ⟨i + 1, .inl (by omega), by go_num, HGN.out, HB2.out⟩ | (simp [intOf]; omega))
      · have dg : decide (f2 ≤ f) = true := decide_eq_true (by omega)
        have dg2 : decide (f ≥ f2) = true := decide_eq_true (by omega)
        have HF := Lib.hid (show ¬ RiseF L from fun h => hxy (h i _ _ HX.out.1 HX.out.2))
        clear hxy
        go_wp2_with fail
        go_region_law (first
          | (go_simp; (with_reducible refine Calls.mono (HIX.out _) ?_); rintro e w1 ⟨rfl, hb1⟩; have HB1 := Lib.hid (HD.out w1 hb1); obtain ⟨⟨d0, d1⟩, d2, d3⟩ := HK.out w1 HB1.out; clear hb1)
          | (go_simp; (with_reducible refine Calls.mono (HIY.out _) ?_); rintro e w2 ⟨rfl, hb2⟩; have HB2 := Lib.hid (HON.out w2 (On.step HB1.out hb2)); clear hb2))
        all_goals go_wp2
        all_goals go_ret
        all_goals exact ⟨false, rfl, by simpa using HF.out, HB2.out⟩
    · have hltz : ¬ (i : Int) + 1 < (N : Int) := by omega
      have HT := Lib.hid (show RiseF L from fun j x y hx hy => HG.out j x y (by have := (List.getElem?_eq_some_iff.1 hy).1; rw [HN.out] at this; omega) hx hy)
      go_wp2
      go_ret
      exact ⟨true, rfl, by simpa using HT.out, HB.out⟩
end Go.Proofs.YtpihogkhfmijcaaGreat
