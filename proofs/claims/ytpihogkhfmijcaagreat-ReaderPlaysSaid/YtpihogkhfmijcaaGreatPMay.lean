/- plan's MayFrags, MayLedger, of any row and any ledger. -/
import Derived.Test.YtpihogkhfmijcaaGreatFAll
import Derived.Test.YtpihogkhfmijcaaGreatRisesF
namespace Go.Proofs.YtpihogkhfmijcaaGreat
open Go.RowKit Go.Maps Go.Shelf
theorem mayB_iff (n : Int) (x : FV) : mayB n x = true ↔ x.may n := by unfold mayB; simp
/-- as the document says it -/
theorem mayFr_iff (n : Int) (L : List FV) : MayFr n L ↔ (1 ≤ L.length ∧ L.length ≤ 6) ∧ (∀ x, L[0]? = some x → x.f = 1) ∧ L.all (mayB n) = true ∧ RiseF L := by
  unfold MayFr
  constructor
  · rintro ⟨h1, h2, h3, h4⟩
    have hr : RiseF L := fun i x y hx hy => (h4 (i + 1) y hy).2.1 i x rfl hx
    have hpos : ∀ (i : Nat) (x : FV), L[i]? = some x → 1 ≤ x.f := by
      intro i
      induction i with
      | zero => intro x hx; have := h3 x hx; omega
      | succ i ih =>
        intro x hx
        obtain ⟨z, hz⟩ : ∃ z, L[i]? = some z := ⟨_, List.getElem?_eq_getElem (by have := (List.getElem?_eq_some_iff.1 hx).1; omega)⟩
        have h5 := ih z hz
        have h6 := hr i z x hz hx
        omega
    refine ⟨⟨h1, h2⟩, h3, ?_, hr⟩
    rw [List.all_eq_true]
    intro x hx
    obtain ⟨i, hi⟩ := List.getElem?_of_mem hx
    have h5 := h4 i x hi
    exact (mayB_iff n x).2 ⟨⟨hpos i x hi, h5.1⟩, ⟨h5.2.2.1, h5.2.2.2.1⟩, h5.2.2.2.2⟩
  · rintro ⟨⟨h1, h2⟩, h3, h4, h5⟩
    refine ⟨h1, h2, h3, fun i x hx => ?_⟩
    have h6 := (mayB_iff n x).1 (List.all_eq_true.1 h4 x (List.mem_of_getElem? hx))
    exact ⟨h6.1.2, fun j y hj hy => h5 j y x hy (by rw [← hj]; exact hx), h6.2.1.1, h6.2.1.2, h6.2.2⟩
set_option linter.unusedSimpArgs false in
set_option maxRecDepth 100000 in
set_option maxHeartbeats 2000000 in
theorem planFrags_any (n : Int) (a : Option Addr) (c : Nat) (L : List FV) (w : World) (h : FsAt w (.slice a L.length c) L) :
    Calls Tryz.prog 40 #[.int .i64 n, .slice a L.length c] w fun e w' => MayPost n L w e w' := by
  have HB := Lib.hid (Go.Joins.below_alloc1 w (.cells #[.int .i64 n] 3))
  have hB : (w.alloc (.cells #[.int .i64 n] 3)).cell? ⟨w.heap.size, 0, none⟩ = some (.int .i64 n) := by rw [World.cell?_alloc_new]; rfl
  have HW := Lib.hid (fun W => within_i (L.length : Int) 1 6 W)
  obtain ⟨b1, hb1⟩ : ∃ b, (decide (1 ≤ (L.length : Int)) && decide ((L.length : Int) ≤ 6)) = b := ⟨_, rfl⟩
  have H1 := Lib.hid (show b1 = true ↔ 1 ≤ L.length ∧ L.length ≤ 6 by rw [← hb1]; simp; omega)
  rw [hb1] at HW
  have HA := Lib.hid (allF_any n a c L _ hB (h.below HB.out))
  obtain ⟨b3, hb3⟩ : ∃ b, L.all (mayB n) = b := ⟨_, rfl⟩
  have H3 := Lib.hid hb3
  rw [hb3] at HA
  have HR := Lib.hid (show b1 = true → ∀ W, Below (w.alloc (.cells #[.int .i64 n] 3)).heap.size (w.alloc (.cells #[.int .i64 n] 3)) W → Calls Tryz.prog 59 #[.slice a L.length c, .func (.func 60) #[] #[]] W fun e w' => RfPost L W e w' from fun hb W hW => risesF_any a c L W (h.below (HB.out.trans (hW.mono HB.out.size))) (by have := (H1.out.1 hb).2; omega))
  have HM := Lib.hid (mayFr_iff n L)
  have HH := Lib.hid h
  obtain ⟨N, hN⟩ : ∃ N, L.length = N := ⟨_, rfl⟩
  rw [hN] at HH HW HA HR ⊢
  have HN := Lib.hid hN
  have hmf : ∀ (fn : Fn) (first cap : Array Value) (w : World), (Instr.makeFunc fn first cap).run Tryz.prog w = .ok (.func fn first cap) w := fun _ _ _ _ => rfl
  clear h hb1 hb3 hN hB
  cases b1
  · have HF := Lib.hid (show ¬ MayFr n L from fun h => by have := H1.out.2 (HM.out.1 h).1; cases this)
    go_enter Tryz.func40, Tryz.ntmps40
    go_wp2_with fail
    refine (HW.out _).mono ?_
    rintro e w1 ⟨rfl, rfl⟩
    go_wp2
    go_ret
    exact ⟨false, rfl, by simpa using HF.out, HB.out⟩
  have hpos : 1 ≤ N := by have := (H1.out.1 rfl).1; have := HN.out; omega
  obtain ⟨x0, hx0⟩ : ∃ x, L[0]? = some x := ⟨_, List.getElem?_eq_getElem (by have := HN.out; omega)⟩
  obtain ⟨b, off, he, -, -, hc⟩ := FsAt.cell HH.out hx0
  subst he
  obtain ⟨g0, -⟩ := hc _ HB.out
  rw [Nat.zero_mul, Nat.add_zero] at g0
  have HX0 := Lib.hid hx0
  have hposz : (0 : Int) < (N : Int) := by omega
  clear hc hx0
  by_cases hf : x0.f = 1
  · have HF1 := Lib.hid (show ∀ x, L[0]? = some x → x.f = 1 from fun x hx => by rw [HX0.out] at hx; cases hx; exact hf)
    rw [hf] at g0
    clear hf
    cases b3
    · have HF := Lib.hid (show ¬ MayFr n L from fun h => by have h1 := (HM.out.1 h).2.2.1; rw [H3.out] at h1; cases h1)
      go_enter Tryz.func40, Tryz.ntmps40
      go_wp2_with fail
      refine (HW.out _).mono ?_
      rintro e w1 ⟨rfl, rfl⟩
      go_wp2_with fail
      refine HA.out.mono ?_
      rintro e w1 ⟨rfl, hb⟩
      have HF2 := Lib.hid (HB.out.trans (hb.mono HB.out.size))
      clear hb
      go_wp2
      go_ret
      exact ⟨false, rfl, by simpa using HF.out, HF2.out⟩
    · go_enter Tryz.func40, Tryz.ntmps40
      go_wp2_with fail
      refine (HW.out _).mono ?_
      rintro e w1 ⟨rfl, rfl⟩
      go_wp2_with fail
      refine HA.out.mono ?_
      rintro e w1 ⟨rfl, hb⟩
      have HF2 := Lib.hid (HB.out.trans (hb.mono HB.out.size))
      have HC := Lib.hid (HR.out (by trivial) w1 hb)
      clear hb
      go_wp2_with fail
      refine HC.out.mono ?_
      rintro e w2 ⟨R, rfl, hR, hb2⟩
      have HF := Lib.hid (show MayPost n L w (.returned (.bool R)) w2 from ⟨R, rfl, ⟨fun h => HM.out.2 ⟨H1.out.1 (by trivial), HF1.out, H3.out, hR.1 h⟩, fun h => hR.2 (HM.out.1 h).2.2.2⟩, HF2.out.trans (hb2.mono HF2.out.size)⟩)
      clear hR hb2
      go_wp2
      go_ret
      exact HF.out
  · have HF := Lib.hid (show ¬ MayFr n L from fun h => hf ((HM.out.1 h).2.1 x0 HX0.out))
    have hz : (x0.f == 1) = false := by simpa using hf
    clear hf
    go_enter Tryz.func40, Tryz.ntmps40
    go_wp2_with fail
    refine (HW.out _).mono ?_
    rintro e w1 ⟨rfl, rfl⟩
    go_wp2
    go_ret
    exact ⟨false, rfl, by simpa using HF.out, HB.out⟩
end Go.Proofs.YtpihogkhfmijcaaGreat
