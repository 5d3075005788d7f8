/- plan's mayFrag, of any fragment. -/
import Derived.Test.YtpihogkhfmijcaaGreatApart
namespace Go.Proofs.YtpihogkhfmijcaaGreat
open Go.RowKit Go.Maps Go.Shelf
/-- a fragment that may stand in some row -/
def FV.may (n : Int) (x : FV) : Prop := (1 ≤ x.f ∧ x.f ≤ 9) ∧ (n ≤ (x.ps.length : Int) ∧ x.ps.length ≤ 5) ∧ MayRow x.ps
def FV.val (x : FV) : Value := .agg #[.int .u64 x.f, .slice x.a x.ps.length x.c]
def FmPost (n : Int) (x : FV) (w : World) (e : Ending) (w' : World) : Prop := ∃ R : Bool, e = .returned (.bool R) ∧ (R = true ↔ x.may n) ∧ Below w.heap.size w w'
theorem mayRow_iff (l : List PL) : MayRow l ↔ l.all PL.may = true ∧ (l.map PL.n).Nodup := by
  unfold MayRow
  rw [List.all_eq_true, List.Nodup, List.pairwise_map]
set_option linter.unusedSimpArgs false in
set_option maxRecDepth 100000 in
set_option maxHeartbeats 2000000 in
theorem mayFrag_any (n : Int) (x : FV) (w : World) (h : PsAt w (.slice x.a x.ps.length x.c) x.ps) :
    Calls Tryz.prog 58 #[.int .i64 n, x.val] w fun e w' => FmPost n x w e w' := by
  obtain ⟨f, a, c, ps⟩ := x
  dsimp only at h
  have HMR := Lib.hid (mayRow_iff ps)
  have HB := Lib.hid (Go.Joins.below_alloc1 w (.cells #[.int .u64 f, .slice a ps.length c] 73))
  have HP := Lib.hid (h.below HB.out)
  have HW1 := Lib.hid (fun W => within_u f 1 9 W)
  obtain ⟨b1, hb1⟩ : ∃ b, (decide (1 ≤ f) && decide (f ≤ 9)) = b := ⟨_, rfl⟩
  have H1 := Lib.hid (show b1 = true ↔ 1 ≤ f ∧ f ≤ 9 by rw [← hb1]; simp)
  rw [hb1] at HW1
  have HW2 := Lib.hid (fun W => within_i (ps.length : Int) n 5 W)
  obtain ⟨b2, hb2⟩ : ∃ b, (decide (n ≤ (ps.length : Int)) && decide ((ps.length : Int) ≤ 5)) = b := ⟨_, rfl⟩
  have H2 := Lib.hid (show b2 = true ↔ n ≤ (ps.length : Int) ∧ ps.length ≤ 5 by rw [← hb2]; simp; omega)
  rw [hb2] at HW2
  have HA := Lib.hid (allP_any (.slice a ps.length c) ps _ HP.out)
  obtain ⟨b3, hb3⟩ : ∃ b, ps.all PL.may = b := ⟨_, rfl⟩
  have H3 := Lib.hid hb3
  rw [hb3] at HA
  have HAP := Lib.hid (show b2 = true → ∀ W, Below (w.alloc (.cells #[.int .u64 f, .slice a ps.length c] 73)).heap.size (w.alloc (.cells #[.int .u64 f, .slice a ps.length c] 73)) W → Calls Tryz.prog 72 #[.slice a ps.length c, .func (.func 73) #[] #[]] W fun e w' => ApPost ps W e w' from fun hb W hW => apart_any a c ps W (HP.out.below hW) (by have := (H2.out.1 hb).2; omega))
  have HDEF := Lib.hid (show FV.may n ⟨f, a, c, ps⟩ ↔ (1 ≤ f ∧ f ≤ 9) ∧ (n ≤ (ps.length : Int) ∧ ps.length ≤ 5) ∧ MayRow ps from Iff.rfl)
  obtain ⟨E, hE⟩ : ∃ E, ps.length = E := ⟨_, rfl⟩
  simp only [FV.val]
  rw [hE] at HB HP HW2 HA HAP ⊢
  have hcell := (show ∀ W, Below (w.alloc (.cells #[.int .u64 f, .slice a E c] 73)).heap.size (w.alloc (.cells #[.int .u64 f, .slice a E c] 73)) W → W.cell? ⟨w.heap.size, 1, none⟩ = some (.slice a E c) from fun W hW => by
    rw [hW.cell (show (⟨w.heap.size, 1, none⟩ : Addr).block < _ by simp [World.size_alloc])]
    rw [World.cell?_alloc_new]; rfl)
  have HCELL := Lib.hid hcell
  have HE := Lib.hid hE
  clear h hb1 hb2 hb3 hE hcell
  cases b1
  · have HF := Lib.hid (show ¬ FV.may n ⟨f, a, c, ps⟩ from fun h => by have := H1.out.2 (HDEF.out.1 h).1; cases this)
    go_enter Tryz.func58, Tryz.ntmps58
    go_wp2_with fail
    refine (HW1.out _).mono ?_
    rintro e w1 ⟨rfl, rfl⟩
    go_wp2
    go_ret
    exact ⟨false, rfl, by simpa using HF.out, HB.out⟩
  cases b2
  · have HF := Lib.hid (show ¬ FV.may n ⟨f, a, c, ps⟩ from fun h => by have := H2.out.2 (HDEF.out.1 h).2.1; cases this)
    go_enter Tryz.func58, Tryz.ntmps58
    go_wp2_with fail
    refine (HW1.out _).mono ?_
    rintro e w1 ⟨rfl, rfl⟩
    go_wp2_with fail
    refine (HW2.out _).mono ?_
    rintro e w1 ⟨rfl, rfl⟩
    go_wp2
    go_ret
    exact ⟨false, rfl, by simpa using HF.out, HB.out⟩
  cases b3
  · have HF := Lib.hid (show ¬ FV.may n ⟨f, a, c, ps⟩ from fun h => by have h1 := (HMR.out.1 (HDEF.out.1 h).2.2).1; have h2 := H3.out; rw [h1] at h2; cases h2)
    go_enter Tryz.func58, Tryz.ntmps58
    go_wp2_with fail
    refine (HW1.out _).mono ?_
    rintro e w1 ⟨rfl, rfl⟩
    go_wp2_with fail
    refine (HW2.out _).mono ?_
    rintro e w1 ⟨rfl, rfl⟩
    go_wp2_with fail
    refine HA.out.mono ?_
    rintro e w1 ⟨rfl, hb⟩
    have HF2 := Lib.hid (HB.out.trans (hb.mono HB.out.size))
    clear hb
    go_wp2
    go_ret
    exact ⟨false, rfl, by simpa using HF.out, HF2.out⟩
  · go_enter Tryz.func58, Tryz.ntmps58
    go_wp2_with fail
    refine (HW1.out _).mono ?_
    rintro e w1 ⟨rfl, rfl⟩
    go_wp2_with fail
    refine (HW2.out _).mono ?_
    rintro e w1 ⟨rfl, rfl⟩
    go_wp2_with fail
    refine HA.out.mono ?_
    rintro e w1 ⟨rfl, hb⟩
    have HF2 := Lib.hid (HB.out.trans (hb.mono HB.out.size))
    have HC := Lib.hid (HAP.out (by trivial) w1 hb)
    have c1 := HCELL.out w1 hb
    clear hb
    go_wp2_with fail
    refine HC.out.mono ?_
    rintro e w2 ⟨R, rfl, hR, hb2⟩
    have HF := Lib.hid (show FmPost n ⟨f, a, c, ps⟩ w (.returned (.bool R)) w2 from ⟨R, rfl, ⟨fun h => HDEF.out.2 ⟨H1.out.1 (by trivial), H2.out.1 (by trivial), HMR.out.2 ⟨H3.out, hR.1 h⟩⟩, fun h => hR.2 (HMR.out.1 (HDEF.out.1 h).2.2).2⟩, HF2.out.trans (hb2.mono HF2.out.size)⟩)
    clear hR hb2
    go_wp2
    go_ret
    exact HF.out
end Go.Proofs.YtpihogkhfmijcaaGreat
