/- Is more handed in than is gone through? -/
import Derived.Test.YtpihogkhfmijcaaLawA
namespace Go.Proofs.Ytpihogkhfmijcaa
open Go.RowKit Go.Maps Go.Shelf
set_option linter.unusedSimpArgs false
def LightC (q : CaV) : Prop := q.r.body.length ≤ 5000 ∧ ¬ LongFr q.l.fs
/-- no more is handed in than is gone through -/
def Light (x : LgV) (L : List CaV) : Prop := L.length ≤ 200 ∧ ¬ LongFr x.fs ∧ ∀ q ∈ L, LightC q
def HeavyPost (x : LgV) (L : List CaV) (w : World) (e : Ending) (w' : World) : Prop := ∃ R : Bool, e = .returned (.bool R) ∧ (R = false → Light x L) ∧ Below w.heap.size w w'
set_option maxRecDepth 100000 in
set_option maxHeartbeats 4000000 in
theorem heavy_any (x : LgV) (a : Option Addr) (c : Nat) (L : List CaV) (w : World) (hx : FsAt w (.slice x.a x.fs.length x.c) x.fs) (h : CasAt w (.slice a L.length c) L) :
    Calls Try.prog 5 #[x.val, .slice a L.length c] w fun e w' => HeavyPost x L w e w' := by
  obtain ⟨N, hN⟩ : ∃ N, L.length = N := ⟨_, rfl⟩
  have HH := Lib.hid h
  have HN := Lib.hid hN
  have HB := Lib.hid (Go.Joins.below_alloc1 w (.cells x.arr 25))
  have HL := Lib.hid (long_any x.a x.c x.fs _ (hx.below HB.out))
  have HLE := Lib.hid (fun q (hq : q ∈ L) Z (hZ : Below w.heap.size w Z) => long_any q.l.a q.l.c q.l.fs Z ((RowAt.each h q hq).l.below hZ))
  have HFX : Hid (∀ p : Prop, (L.length ≤ 200 → ¬ LongFr x.fs → p) → (L.length ≤ 200 → ¬ LongFr x.fs → p)) := fun _ h => h
  rw [hN] at HH ⊢
  obtain ⟨xi, xW, xA, xa, xc, xfs, xcl, xlast⟩ := x
  dsimp only at HL
  simp only [LgV.arr] at HB HL
  simp only [LgV.val, LgV.arr]
  clear hx h hN HFX
  by_cases h2 : 200 < N
  · have d1 : (200 : Int) < (N : Int) := by omega
    go_enter Try.func5, Try.ntmps5
    go_wp2
    go_ret
    exact ⟨true, rfl, (fun h => by cases h), HB.out⟩
  · have d1 : ¬ (200 : Int) < (N : Int) := by omega
    have HN2 := Lib.hid h2
    clear h2
    go_enter Try.func5, Try.ntmps5
    go_wp2_with fail
    refine HL.out.mono ?_
    rintro e w1 ⟨R, rfl, hR, hb1⟩
    have HR := Lib.hid hR
    have HB1 := Lib.hid (HB.out.trans (hb1.mono HB.out.size))
    clear hR hb1 HL
    cases R with
    | true =>
      go_wp2
      go_ret
      exact ⟨true, rfl, (fun h => by cases h), HB1.out⟩
    | false =>
      have HX := Lib.hid (show ¬ LongFr xfs from fun hh => by have := HR.out.2 hh; cases this)
      go_wp2_with fail
      go_loopw [5] (fun z wr => ∃ i : Nat, i ≤ N ∧ z = .int .i64 (i : Nat) ∧ Hid ((∀ q ∈ L.take i, LightC q) ∧ Below w.heap.size w wr)) (fun z _ => N - (intOf z).toNat)
      case atStart => exact ⟨0, Nat.zero_le _, rfl, by simp, HB1.out⟩
      case round =>
        obtain ⟨i, hi, rfl, HRL⟩ := hrel
        by_cases hlt : i < N
        · have hltz : (i : Int) < (N : Int) := by omega
          obtain ⟨q, hq⟩ : ∃ q, L[i]? = some q := ⟨_, List.getElem?_eq_getElem (by rw [HN.out]; exact hlt)⟩
          obtain ⟨b, off, he, hbl, hqo, hc⟩ := RowAt.cell (HH.out.below HRL.out.2) hq
          cases he
          have c11 := hc 11 (by omega) wr (Below.refl _ _)
          have c15 := hc 15 (by omega) wr (Below.refl _ _)
          simp only [CaV.cells, List.getElem?_cons_succ, List.getElem?_cons_zero] at c11 c15
          have HQ := Lib.hid hq
          have HLQ := Lib.hid (HLE.out q (List.mem_of_getElem? hq) wr HRL.out.2)
          obtain ⟨BL, hBL⟩ : ∃ n, q.r.body.length = n := ⟨_, rfl⟩
          have HBL := Lib.hid hBL
          rw [hBL] at c11
          clear hc hqo hbl hq hBL
          by_cases h5 : 5000 < BL
          · have d5 : (5000 : Int) < (BL : Int) := by omega
            go_wp2
            go_ret
            exact ⟨true, rfl, (fun h => by cases h), HRL.out.2⟩
          · have d5 : ¬ (5000 : Int) < (BL : Int) := by omega
            have H5 := Lib.hid h5
            clear h5
            go_wp2_with fail
            refine HLQ.out.mono ?_
            rintro e w2 ⟨R2, rfl, hR2, hb2⟩
            have HR2 := Lib.hid hR2
            have HB2 := Lib.hid (HRL.out.2.trans (hb2.mono HRL.out.2.size))
            clear hR2 hb2 HLQ
            cases R2 with
            | true =>
              go_wp2
              go_ret
              exact ⟨true, rfl, (fun h => by cases h), HB2.out⟩
            | false =>
              go_wp2
              go_roundw
              case rel =>
                refine ⟨i + 1, by omega, by go_num, fun z hz => ?_, HB2.out⟩
                rw [take_snoc HQ.out, List.mem_append, List.mem_singleton] at hz
                rcases hz with hz | hz
                · exact HRL.out.1 z hz
                · rw [hz]
                  exact ⟨by have := H5.out; rw [HBL.out]; omega, fun hh => by have := HR2.out.2 hh; cases this⟩
              case measure => simp [intOf]; omega
        · obtain rfl : i = N := by omega
          go_wp2
          go_ret
          exact ⟨false, rfl, (fun _ => ⟨by have := HN.out; have := HN2.out; omega, HX.out, fun z hz => HRL.out.1 z (by rw [List.take_of_length_le (by rw [HN.out]; exact Nat.le_refl _)]; exact hz)⟩), HRL.out.2⟩
end Go.Proofs.Ytpihogkhfmijcaa
