/- The document's MayFrags, of one fragment with First 1. -/
import Derived.Test.YtnfjhpdpeihheaaRefCov
import Derived.Test.YtnfjhpdpeihheaaStill
namespace Go.Proofs.Ytnfjhpdpeihheaa
open Go.RowKit Go.Maps Go.Shelf
/-- places that may be, of unlike nodes -/
def MayRow (row : List PL) : Prop := (∀ x ∈ row, x.may = true) ∧ row.Pairwise fun p q => p.n ≠ q.n
theorem MayRow.take {row : List PL} (h : MayRow row) (k : Nat) : MayRow (row.take k) := ⟨fun x hx => h.1 x (List.mem_of_mem_take hx), h.2.sublist (List.take_sublist k row)⟩
theorem MayRow.snoc {l : List PL} {x : PL} : MayRow (l ++ [x]) ↔ MayRow l ∧ x.may = true ∧ ∀ y ∈ l, y.n ≠ x.n := by
  unfold MayRow
  rw [List.pairwise_append]
  constructor
  · rintro ⟨h1, h2, _, h3⟩
    exact ⟨⟨fun y hy => h1 y (List.mem_append_left _ hy), h2⟩, h1 x (by simp), fun y hy => h3 y hy x (by simp)⟩
  · rintro ⟨⟨h1, h2⟩, h3, h4⟩
    refine ⟨fun y hy => ?_, h2, by simp, fun y hy z hz => ?_⟩
    · rcases List.mem_append.1 hy with h | h
      · exact h1 y h
      · rw [List.mem_singleton] at h; rw [h]; exact h3
    · rw [List.mem_singleton] at hz; rw [hz]; exact h4 y hy
set_option maxRecDepth 100000 in
set_option maxHeartbeats 2000000 in
theorem mayf_any (b off cap : Nat) (n : Int) (a : Option Addr) (c : Nat) (row : List PL) (w : World) (h : OneFrag w b off 1 a row.length c) (hp : PsAt w (.slice a row.length c) row) :
    Calls Try.prog 27 #[.int .i64 n, .slice (some ⟨b, off, none⟩) 1 cap] w fun e w' => ∃ R : Bool, e = .returned (.bool R) ∧ (R = true ↔ (n ≤ (row.length : Int) ∧ row.length ≤ 5 ∧ MayRow row)) ∧ Below w.heap.size w w' := by
  have HP := Lib.hid hp
  have HO := Lib.hid h
  have c0 := h.c0
  have c1 := h.c1
  obtain ⟨E, hE⟩ : ∃ E, row.length = E := ⟨_, rfl⟩
  rw [hE] at HP HO c1 ⊢
  have HE := Lib.hid hE
  clear hE hp h
  go_enter Try.func27, Try.ntmps27
  go_wp2
  go_loopw [5] (fun i wr => (i = .int .i64 0 ∨ (i = .int .i64 1 ∧ Hid (n ≤ (E : Int) ∧ E ≤ 5 ∧ MayRow row))) ∧ Hid (Below w.heap.size w wr)) (fun i _ => 1 - (intOf i).toNat)
  case atStart => exact ⟨.inl rfl, Below.refl _ _⟩
  case round =>
    obtain ⟨hi | ⟨hi, HG⟩, HB⟩ := hrel
    · subst hi
      clear c0 c1
      have hO := HO.out.below HB.out
      have HC := Lib.hid (show ∀ W', On wr W' → W'.cell? ⟨b, off, none⟩ = some (.int .u64 1) ∧ W'.cell? ⟨b, off + 1, none⟩ = some (.slice a E c) from fun W' hb => by
        have h := hO.below hb
        exact ⟨h.c0, h.c1⟩)
      have c0 := hO.c0
      have c1 := hO.c1
      clear hO
      by_cases h1 : (E : Int) < n
      · have HF := Lib.hid (show ¬ (n ≤ (E : Int) ∧ E ≤ 5 ∧ MayRow row) from fun h => by omega)
        go_wp2_with fail
        refine region_on (by kernel_rfl) (by kernel_rfl) wr (Below.refl _ _) ?_
        repeat (first
          | go_big_quiet_skip
          | (go_big_quiet_want; go_big_quiet_op; (first
            | go_big_quiet_on
            | (apply Exists.intro; refine ⟨fun _ hC => ?_, ?_⟩; with_reducible (first
                | exact rfl
                | (have hcell := HC.out _ hC; simp only [hcell, Result.andThen]; (first | exact rfl | exact ⟨rfl, rfl⟩ | exact ⟨trivial, rfl⟩))); go_big_quiet_on))))
        refine wpQuiet_nil ?_
        intro wm hO
        have HBM := Lib.hid (HB.out.trans (Below.mono hO HB.out.size))
        clear hO
        go_wp2
        go_ret
        exact ⟨false, rfl, by simpa using HF.out, HBM.out⟩
      · have d1 : decide ((E : Int) < n) = false := decide_eq_false h1
        by_cases h2 : 5 < E
        · have HF := Lib.hid (show ¬ (n ≤ (E : Int) ∧ E ≤ 5 ∧ MayRow row) from fun h => by omega)
          go_wp2_with fail
          refine region_on (by kernel_rfl) (by kernel_rfl) wr (Below.refl _ _) ?_
          repeat (first
            | go_big_quiet_skip
            | (go_big_quiet_want; go_big_quiet_op; (first
              | go_big_quiet_on
              | (apply Exists.intro; refine ⟨fun _ hC => ?_, ?_⟩; with_reducible (first
                  | exact rfl
                  | (have hcell := HC.out _ hC; simp only [hcell, Result.andThen]; (first | exact rfl | exact ⟨rfl, rfl⟩ | exact ⟨trivial, rfl⟩))); go_big_quiet_on))))
          refine wpQuiet_nil ?_
          intro wm hO
          have HBM := Lib.hid (HB.out.trans (Below.mono hO HB.out.size))
          clear hO
          go_wp2
          go_ret
          exact ⟨false, rfl, by simpa using HF.out, HBM.out⟩
        · have d2 : decide (5 < E) = false := decide_eq_false h2
          have d3 : decide ((5 : Int) < (E : Int)) = false := decide_eq_false (by omega)
          go_wp2_with fail
          refine region_on (by kernel_rfl) (by kernel_rfl) wr (Below.refl _ _) ?_
          repeat (first
            | go_big_quiet_skip
            | (go_big_quiet_want; go_big_quiet_op; (first
              | go_big_quiet_on
              | (apply Exists.intro; refine ⟨fun _ hC => ?_, ?_⟩; with_reducible (first
                  | exact rfl
                  | (have hcell := HC.out _ hC; simp only [hcell, Result.andThen]; (first | exact rfl | exact ⟨rfl, rfl⟩ | exact ⟨trivial, rfl⟩))); go_big_quiet_on))))
          refine wpQuiet_nil ?_
          intro wm hO
          have HBM := Lib.hid (HB.out.trans (Below.mono hO HB.out.size))
          clear hO
          go_wp2
          go_loopw [7] (fun i wx => ∃ k : Nat, k ≤ E ∧ i = .int .i64 (k : Nat) ∧ Hid (MayRow (row.take k)) ∧ Hid (Below w.heap.size w wx)) (fun i _ => E - (intOf i).toNat)
          case atStart => exact ⟨0, Nat.zero_le _, rfl, ⟨by simp, by simp⟩, HBM.out⟩
          case round =>
            obtain ⟨k, hk, rfl, HK, HB2⟩ := hrel
            obtain ⟨wk, rfl⟩ : ∃ wk : World, wk = wr := ⟨_, rfl⟩
            by_cases hlt : k < E
            · have hltz : (k : Int) < (E : Int) := by omega
              obtain ⟨x, hx⟩ : ∃ x, row[k]? = some x := ⟨_, List.getElem?_eq_getElem (by rw [HE.out]; exact hlt)⟩
              obtain ⟨b2, o2, rfl, hb2, -⟩ := PsAt.cell (HP.out.below HB2.out) hx
              have HCX := Lib.hid (show ∀ j y, row[j]? = some y → ∀ W, Below w.heap.size w W → W.cell? ⟨b2, o2 + j * 2, none⟩ = some (.int .i64 y.n) ∧ W.cell? ⟨b2, o2 + j * 2 + 1, none⟩ = some (.int .u64 y.s) from fun j y hy W hW => by
                obtain ⟨b', off', he, _, hc⟩ := PsAt.cell (HP.out.below hW) hy
                cases he
                exact hc W (Below.refl _ _))
              have HX := Lib.hid hx
              obtain ⟨e0, e1⟩ := HCX.out k x hx wk HB2.out
              have HMP := Lib.hid (mayPlace_any x wk)
              have HSN := Lib.hid (show MayRow (row.take (k + 1)) ↔ MayRow (row.take k) ∧ x.may = true ∧ ∀ y ∈ row.take k, y.n ≠ x.n by rw [take_snoc hx]; exact MayRow.snoc)
              clear hx hb2
              cases hmay : x.may
              · rw [hmay] at HMP
                have HF := Lib.hid (show ¬ (n ≤ (E : Int) ∧ E ≤ 5 ∧ MayRow row) from fun h => by
                  have := (HSN.out.1 (h.2.2.take (k + 1))).2.1
                  rw [hmay] at this
                  cases this)
                clear hmay
                go_wp2_with fail
                refine HMP.out.mono ?_
                rintro e w3 ⟨rfl, hb3⟩
                have HB3 := Lib.hid (HB2.out.trans (hb3.mono HB2.out.size))
                clear hb3
                go_wp2
                go_ret
                exact ⟨false, rfl, by simpa using HF.out, HB3.out⟩
              · rw [hmay] at HMP
                have HMY := Lib.hid hmay
                clear hmay
                go_wp2_with fail
                refine HMP.out.mono ?_
                rintro e w3 ⟨rfl, hb3⟩
                have HB3 := Lib.hid (HB2.out.trans (hb3.mono HB2.out.size))
                clear hb3
                go_wp2
                go_loopw [8] (fun j wx => ∃ t : Nat, t ≤ k ∧ j = .int .i64 (t : Nat) ∧ Hid (∀ y ∈ row.take t, y.n ≠ x.n) ∧ Hid (Below w.heap.size w wx)) (fun j _ => k - (intOf j).toNat)
                case atStart => exact ⟨0, Nat.zero_le _, rfl, (fun y hy => by simp at hy), HB3.out⟩
                case round =>
                  obtain ⟨t, ht, rfl, HT, HB4⟩ := hrel
                  by_cases htk : t < k
                  · have htz : (t : Int) < (k : Int) := by omega
                    have htz' : (t : Int) < (E : Int) := by omega
                    obtain ⟨y, hy⟩ : ∃ y, row[t]? = some y := ⟨_, List.getElem?_eq_getElem (by rw [HE.out]; omega)⟩
                    obtain ⟨e0, e1⟩ := HCX.out k x HX.out wr HB4.out
                    obtain ⟨f0, f1⟩ := HCX.out t y hy wr HB4.out
                    have HYM := Lib.hid hy
                    have HBD := Lib.hid (fun q => drewN_below HB4.out q)
                    clear hy
                    by_cases hyx : y.n = x.n
                    · have HF := Lib.hid (show ¬ (n ≤ (E : Int) ∧ E ≤ 5 ∧ MayRow row) from fun h =>
                        (HSN.out.1 (h.2.2.take (k + 1))).2.2 y (List.mem_of_getElem? (show (row.take k)[t]? = some y by rw [List.getElem?_take_of_lt htk]; exact HYM.out)) hyx)
                      have hyb : (y.n == x.n) = true := by simpa using hyx
                      clear hyx
                      go_wp2_with fail
                      go_quiet (fail)
                      go_wp2
                      go_ret
                      exact ⟨false, rfl, by simpa using HF.out, HBD.out _⟩
                    · have hyb : (y.n == x.n) = false := by simpa using hyx
                      have HTN := Lib.hid (show ∀ z ∈ row.take (t + 1), z.n ≠ x.n from fun z hz => by
                        rw [take_snoc HYM.out] at hz
                        rcases List.mem_append.1 hz with h | h
                        · exact HT.out z h
                        · rw [List.mem_singleton] at h; rw [h]; exact hyx)
                      clear hyx
                      go_wp2_with fail
                      go_quiet (fail)
                      go_wp2
                      go_roundw
                      case rel => exact ⟨t + 1, by omega, by go_num, HTN.out, HBD.out _⟩
                      case measure => simp [intOf]; omega
                  · obtain rfl : t = k := by omega
                    have HMK := Lib.hid (HSN.out.2 ⟨HK.out, HMY.out, HT.out⟩)
                    go_wp2
                    go_roundw
                    case rel => exact ⟨t + 1, by omega, by go_num, HMK.out, HB4.out⟩
                    case measure => simp [intOf]; omega
            · obtain rfl : k = E := by omega
              have HMR := Lib.hid (show n ≤ (k : Int) ∧ k ≤ 5 ∧ MayRow row from ⟨by omega, by omega, by have := HK.out; rw [take_all HE.out] at this; exact this⟩)
              go_wp2
              go_roundw
              case rel => exact ⟨.inr ⟨rfl, HMR.out⟩, HB2.out⟩
              case measure => simp [intOf]
    · subst hi
      go_wp2
      go_ret
      exact ⟨true, rfl, by simpa using HG.out, HB.out⟩
end Go.Proofs.Ytnfjhpdpeihheaa
