/- plan's all, of a row of fragments. -/
import Derived.Test.YtpihogkhfmijcaaGreatPFrag
namespace Go.Proofs.YtpihogkhfmijcaaGreat
open Go.RowKit Go.Maps Go.Shelf
/-- a function of one captured cell that tells whether a fragment is as p says -/
structure AsksF (w : World) (f : Nat) (c : Value) (p : FV → Bool) : Prop where
  enters : ∀ args w, (callFunc f args).run Tryz.prog w = .ok (.enter f args) w
  calls : ∀ W, Below w.heap.size w W → ∀ x : FV, x.ok W → Calls Tryz.prog f #[x.val, c] W fun e w' => e = .returned (.bool (p x)) ∧ Below W.heap.size W w'
theorem AsksF.below {w w' : World} {f : Nat} {c : Value} {p : FV → Bool} (h : AsksF w f c p) (hb : Below w.heap.size w w') : AsksF w' f c p :=
  ⟨h.enters, fun W hW => h.calls W (hb.trans (hW.mono hb.size))⟩
set_option linter.unusedSimpArgs false in
set_option maxRecDepth 100000 in
set_option maxHeartbeats 1000000 in
theorem indexF_any (f : Nat) (c : Value) (p : FV → Bool) (a : Option Addr) (cp : Nat) (L : List FV) (w : World) (ha : AsksF w f c p) (h : FsAt w (.slice a L.length cp) L) :
    Calls Tryz.prog 77 #[.slice a L.length cp, .func (.func f) #[] #[c]] w fun e w' => (∃ z : Int, e = .returned (.int .i64 z) ∧ decide ((0 : Int) ≤ z) = L.any p) ∧ Below w.heap.size w w' := by
  have hlen := (RowAt.form h).choose_spec.choose_spec.2.1
  obtain ⟨N, hN⟩ : ∃ N, L.length = N := ⟨_, rfl⟩
  have HH := Lib.hid h
  have HR := Lib.hid ha
  rw [hN] at hlen HH ⊢
  have HN := Lib.hid hN
  have hen := ha.enters
  clear h ha hN
  go_enter Tryz.func77, Tryz.ntmps77
  go_wp2
  go_loopw [8] (fun i wr => ∃ j : Nat, j ≤ N ∧ i = .int .i64 (j : Nat) ∧ Hid (Below w.heap.size w wr) ∧ Hid ((L.take j).any p = false)) (fun i _ => N - (intOf i).toNat)
  case atStart => exact ⟨0, Nat.zero_le _, rfl, Below.refl _ _, Lib.hid (show (L.take 0).any p = false from by rw [List.take_zero]; rfl)⟩
  case round =>
    obtain ⟨j, hj, rfl, HB, HA⟩ := hrel
    by_cases hlt : j < N
    · have hltz : (j : Int) < (N : Int) := by omega
      obtain ⟨x, hx⟩ : ∃ x, L[j]? = some x := ⟨_, List.getElem?_eq_getElem (by rw [HN.out]; exact hlt)⟩
      obtain ⟨b, off, he, -, hok, hc⟩ := FsAt.cell (HH.out.below HB.out) hx
      subst he
      obtain ⟨c0, c1⟩ := hc wr (Below.refl _ _)
      have HC := Lib.hid (HR.out.calls wr HB.out x hok)
      have HX := Lib.hid hx
      obtain ⟨m, hm⟩ : ∃ m, p x = m := ⟨_, rfl⟩
      rw [hm] at HC
      have HM := Lib.hid hm
      obtain ⟨xf, xa, xc, xp⟩ := x
      simp only [FV.val] at c0 c1 HC
      obtain ⟨E, hE⟩ : ∃ E, xp.length = E := ⟨_, rfl⟩
      rw [hE] at c1 HC
      clear hc hok hx hE hm
      cases m
      · have HT := Lib.hid (show (L.take (j + 1)).any p = false from by
          rw [take_snoc HX.out, List.any_append, HA.out]
          have := HM.out
          simpa using this)
        go_wp2_with fail
        refine HC.out.mono ?_
        rintro e w2 ⟨rfl, hb⟩
        have HF := Lib.hid (HB.out.trans (hb.mono HB.out.size))
        clear hb
        go_wp2
        go_roundw
        case rel => exact ⟨j + 1, by omega, by go_num, HF.out, HT.out⟩
        case measure => simp [intOf]; omega
      · have HT := Lib.hid (show L.any p = true from List.any_eq_true.2 ⟨_, List.mem_of_getElem? HX.out, HM.out⟩)
        go_wp2_with fail
        refine HC.out.mono ?_
        rintro e w2 ⟨rfl, hb⟩
        have HF := Lib.hid (HB.out.trans (hb.mono HB.out.size))
        clear hb
        go_wp2
        go_ret
        exact ⟨⟨_, rfl, by rw [HT.out]; simp⟩, HF.out⟩
    · obtain rfl : j = N := by omega
      have HT := Lib.hid (show L.any p = false from by
        have := HA.out
        rw [take_all HN.out] at this
        exact this)
      go_wp2
      go_ret
      exact ⟨⟨_, rfl, by rw [HT.out]; rfl⟩, HB.out⟩
theorem containsF_any (f : Nat) (c : Value) (p : FV → Bool) (a : Option Addr) (cp : Nat) (L : List FV) (w : World) (ha : AsksF w f c p) (h : FsAt w (.slice a L.length cp) L) :
    Calls Tryz.prog 68 #[.slice a L.length cp, .func (.func f) #[] #[c]] w fun e w' => e = .returned (.bool (L.any p)) ∧ Below w.heap.size w w' := by
  have HF := Lib.hid (indexF_any f c p a cp L w ha h)
  obtain ⟨N, hN⟩ : ∃ N, L.length = N := ⟨_, rfl⟩
  rw [hN] at HF ⊢
  clear h ha hN
  go_enter Tryz.func68, Tryz.ntmps68
  go_wp2_with fail
  refine HF.out.mono ?_
  rintro e w1 ⟨⟨z, rfl, hz⟩, hb⟩
  have HZ := Lib.hid hz
  have HB := Lib.hid hb
  clear hz hb HF
  go_wp2
  go_ret
  exact ⟨by rw [← HZ.out]; rfl, HB.out⟩
open Classical in
/-- whether a fragment may stand in some row, as a Bool -/
noncomputable def mayB (n : Int) (x : FV) : Bool := decide (x.may n)
/-- closure 70 -/
theorem may70 (n : Int) {B : Nat} (x : FV) (W : World) (hB : W.cell? ⟨B, 0, none⟩ = some (.int .i64 n)) (h : x.ok W) :
    Calls Tryz.prog 57 #[x.val, .pointer (some ⟨B, 0, none⟩)] W fun e w' => e = .returned (.bool (mayB n x)) ∧ Below W.heap.size W w' := by
  have hbl : B < W.heap.size := World.block_lt_of_cell? W _ hB
  have HDEF := Lib.hid (show mayB n x = true ↔ x.may n by unfold mayB; simp)
  have HC := Lib.hid (show ∀ W', Below W.heap.size W W' → Calls Tryz.prog 58 #[.int .i64 n, x.val] W' fun e w' => FmPost n x W' e w' from fun W' hW => mayFrag_any n x W' (h.2.below hW))
  obtain ⟨m, hm⟩ : ∃ m, mayB n x = m := ⟨_, rfl⟩
  have HM := Lib.hid hm
  obtain ⟨f, a, c, ps⟩ := x
  simp only [FV.val] at HC ⊢
  obtain ⟨E, hE⟩ : ∃ E, ps.length = E := ⟨_, rfl⟩
  rw [hE] at HC
  rw [hm, hE]
  have HB := Lib.hid (Go.Joins.below_alloc1 W (.cells #[.int .u64 f, .slice a E c] 73))
  have hB2 : (W.alloc (.cells #[.int .u64 f, .slice a E c] 73)).cell? ⟨B, 0, none⟩ = some (.int .i64 n) := (HB.out.cell (p := ⟨B, 0, none⟩) hbl).trans hB
  have HC2 := Lib.hid (HC.out _ HB.out)
  clear hm hE hB h HC
  go_enter Tryz.func57, Tryz.ntmps57
  go_wp2_with fail
  refine HC2.out.mono ?_
  rintro e w1 ⟨R, rfl, hR, hb⟩
  have hRm : R = m := by
    have h1 := HDEF.out
    rw [HM.out] at h1
    cases R <;> cases m <;> simp_all
  subst hRm
  have HF := Lib.hid (HB.out.trans (hb.mono HB.out.size))
  clear hb hR
  go_wp2
  go_ret
  exact ⟨rfl, HF.out⟩
/-- closure 96 -/
theorem not96 (n : Int) {B B1 : Nat} (x : FV) (W : World) (hB1 : W.cell? ⟨B1, 0, none⟩ = some (.func (.func 57) #[] #[.pointer (some ⟨B, 0, none⟩)])) (hB : W.cell? ⟨B, 0, none⟩ = some (.int .i64 n)) (h : x.ok W) :
    Calls Tryz.prog 69 #[x.val, .pointer (some ⟨B1, 0, none⟩)] W fun e w' => e = .returned (.bool (!mayB n x)) ∧ Below W.heap.size W w' := by
  have hbl : B < W.heap.size := World.block_lt_of_cell? W _ hB
  have hbl1 : B1 < W.heap.size := World.block_lt_of_cell? W _ hB1
  have HC := Lib.hid (show ∀ W', Below W.heap.size W W' → Calls Tryz.prog 57 #[x.val, .pointer (some ⟨B, 0, none⟩)] W' fun e w' => e = .returned (.bool (mayB n x)) ∧ Below W'.heap.size W' w' from fun W' hW => may70 n x W' ((hW.cell (p := ⟨B, 0, none⟩) hbl).trans hB) ⟨h.1, h.2.below hW⟩)
  obtain ⟨m, hm⟩ : ∃ m, mayB n x = m := ⟨_, rfl⟩
  rw [hm] at HC ⊢
  obtain ⟨f, a, c, ps⟩ := x
  simp only [FV.val] at HC ⊢
  obtain ⟨E, hE⟩ : ∃ E, ps.length = E := ⟨_, rfl⟩
  rw [hE] at HC ⊢
  have HB := Lib.hid (Go.Joins.below_alloc1 W (.cells #[.int .u64 f, .slice a E c] 73))
  have hB2 : (W.alloc (.cells #[.int .u64 f, .slice a E c] 73)).cell? ⟨B1, 0, none⟩ = some (.func (.func 57) #[] #[.pointer (some ⟨B, 0, none⟩)]) := (HB.out.cell (p := ⟨B1, 0, none⟩) hbl1).trans hB1
  have HC2 := Lib.hid (HC.out _ HB.out)
  have hen := enters_of (P := Tryz.prog) (f := 57) Tryz.func57 (by kernel_rfl) rfl
  clear hm hE hB hB1 h HC
  go_enter Tryz.func69, Tryz.ntmps69
  go_wp2_with fail
  refine HC2.out.mono ?_
  rintro e w1 ⟨rfl, hb⟩
  have HF := Lib.hid (HB.out.trans (hb.mono HB.out.size))
  clear hb
  go_wp2
  go_ret
  exact ⟨rfl, HF.out⟩
theorem allF_any (n : Int) {B : Nat} (a : Option Addr) (c : Nat) (L : List FV) (w : World) (hB : w.cell? ⟨B, 0, none⟩ = some (.int .i64 n)) (h : FsAt w (.slice a L.length c) L) :
    Calls Tryz.prog 56 #[.slice a L.length c, .func (.func 57) #[] #[.pointer (some ⟨B, 0, none⟩)]] w fun e w' => e = .returned (.bool (L.all (mayB n))) ∧ Below w.heap.size w w' := by
  have hbl : B < w.heap.size := World.block_lt_of_cell? w _ hB
  have HB := Lib.hid (Go.Joins.below_alloc1 w (.cells #[.func (.func 57) #[] #[.pointer (some ⟨B, 0, none⟩)]] 89))
  have hB1 : (w.alloc (.cells #[.func (.func 57) #[] #[.pointer (some ⟨B, 0, none⟩)]] 89)).cell? ⟨w.heap.size, 0, none⟩ = some (.func (.func 57) #[] #[.pointer (some ⟨B, 0, none⟩)]) := by rw [World.cell?_alloc_new]; rfl
  have hB2 : (w.alloc (.cells #[.func (.func 57) #[] #[.pointer (some ⟨B, 0, none⟩)]] 89)).cell? ⟨B, 0, none⟩ = some (.int .i64 n) := (HB.out.cell (p := ⟨B, 0, none⟩) hbl).trans hB
  have HC := Lib.hid (containsF_any 69 (.pointer (some ⟨w.heap.size, 0, none⟩)) (fun x => !mayB n x) a c L _ ⟨enters_of Tryz.func69 (by kernel_rfl) rfl, fun W hW x hx => not96 n x W ((hW.cell (p := ⟨w.heap.size, 0, none⟩) (World.block_lt_of_cell? _ _ hB1)).trans hB1) ((hW.cell (p := ⟨B, 0, none⟩) (World.block_lt_of_cell? _ _ hB2)).trans hB2) hx⟩ (h.below HB.out))
  obtain ⟨m, hm⟩ : ∃ m, (L.any fun x => !mayB n x) = m := ⟨_, rfl⟩
  have hall : L.all (mayB n) = !m := by rw [← hm]; simp [List.all_eq_not_any_not]
  obtain ⟨N, hN⟩ : ∃ N, L.length = N := ⟨_, rfl⟩
  rw [hall]
  rw [hm, hN] at HC
  rw [hN]
  have hmf : ∀ (fn : Fn) (first cap : Array Value) (w : World), (Instr.makeFunc fn first cap).run Tryz.prog w = .ok (.func fn first cap) w := fun _ _ _ _ => rfl
  clear hm hall h hN hB hB1 hB2 hbl
  go_enter Tryz.func56, Tryz.ntmps56
  go_wp2_with fail
  refine HC.out.mono ?_
  rintro e w1 ⟨rfl, hb⟩
  have HF := Lib.hid (HB.out.trans (hb.mono HB.out.size))
  clear hb
  go_wp2
  go_ret
  exact ⟨rfl, HF.out⟩
end Go.Proofs.YtpihogkhfmijcaaGreat
