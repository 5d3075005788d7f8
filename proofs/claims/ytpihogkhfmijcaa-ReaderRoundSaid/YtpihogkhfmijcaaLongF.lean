/- LongFrags, of any row. -/
import Derived.Test.YtpihogkhfmijcaaRefL
namespace Go.Proofs.Ytpihogkhfmijcaa
open Go.RowKit Go.Maps Go.Shelf
/-- a row too long for the law -/
def LongFr (L : List FV) : Prop := 30 < L.length ∨ ∃ x ∈ L, 30 < x.ps.length
def LongPost (L : List FV) (w : World) (e : Ending) (w' : World) : Prop := ∃ R : Bool, e = .returned (.bool R) ∧ (R = true ↔ LongFr L) ∧ Below w.heap.size w w'
set_option linter.unusedSimpArgs false in
set_option maxRecDepth 100000 in
set_option maxHeartbeats 4000000 in
theorem long_any (a : Option Addr) (c : Nat) (L : List FV) (w : World) (h : FsAt w (.slice a L.length c) L) :
    Calls Try.prog 15 #[.slice a L.length c] w fun e w' => LongPost L w e w' := by
  obtain ⟨N, hN⟩ : ∃ N, L.length = N := ⟨_, rfl⟩
  have HH := Lib.hid h
  have HN := Lib.hid hN
  rw [hN] at HH ⊢
  by_cases h3 : 30 < N
  · have HT := Lib.hid (show LongFr L from .inl (by omega))
    have d3 : (30 : Int) < (N : Int) := by omega
    clear h hN h3
    go_enter Try.func15, Try.ntmps15
    go_wp2
    go_ret
    exact ⟨true, rfl, by simpa using HT.out, Below.refl _ _⟩
  · have d3 : ¬ (30 : Int) < (N : Int) := by omega
    have H3 := Lib.hid h3
    clear h hN h3
    go_enter Try.func15, Try.ntmps15
    go_wp2
    go_loopw [3] (fun z wr => ∃ i : Nat, i ≤ N ∧ z = .int .i64 (i : Nat) ∧ Hid (∀ x ∈ L.take i, ¬ 30 < x.ps.length) ∧ Hid (Below w.heap.size w wr)) (fun z _ => N - (intOf z).toNat)
    case atStart => exact ⟨0, Nat.zero_le _, rfl, Lib.hid (show ∀ x ∈ L.take 0, ¬ 30 < x.ps.length by simp), Below.refl _ _⟩
    case round =>
      obtain ⟨i, hi, rfl, HG, HB⟩ := hrel
      by_cases hlt : i < N
      · have hltz : (i : Int) < (N : Int) := by omega
        obtain ⟨x, hx⟩ : ∃ x, L[i]? = some x := ⟨_, List.getElem?_eq_getElem (by rw [HN.out]; exact hlt)⟩
        have HXI := Lib.hid hx
        obtain ⟨b', off', he, -, -, hc⟩ := FsAt.cell (HH.out.below HB.out) hx
        cases he
        obtain ⟨-, c1⟩ := hc wr (Below.refl _ _)
        obtain ⟨E, hE⟩ : ∃ E, x.ps.length = E := ⟨_, rfl⟩
        rw [hE] at c1
        have HE := Lib.hid hE
        clear hc hx hE
        by_cases hl : 30 < E
        · have HT := Lib.hid (show LongFr L from .inr ⟨x, List.mem_of_getElem? HXI.out, by rw [HE.out]; exact hl⟩)
          have dl : decide ((30 : Int) < (E : Int)) = true := decide_eq_true (by omega)
          have dl2 : decide ((E : Int) > (30 : Int)) = true := decide_eq_true (by omega)
          go_wp2
          go_ret
          exact ⟨true, rfl, by simpa using HT.out, HB.out⟩
        · have dl : decide ((30 : Int) < (E : Int)) = false := decide_eq_false (by omega)
          have dl2 : decide ((E : Int) > (30 : Int)) = false := decide_eq_false (by omega)
          have HGN := Lib.hid (show ∀ y ∈ L.take (i + 1), ¬ 30 < y.ps.length from fun y hy => by
            rw [take_snoc HXI.out] at hy
            rcases List.mem_append.1 hy with h | h
            · exact HG.out y h
            · rw [List.mem_singleton] at h; rw [h, HE.out]; exact hl)
          go_wp2
          go_roundw
          case rel => exact ⟨i + 1, by omega, by go_num, HGN.out, HB.out⟩
          case measure => simp [intOf]; omega
      · obtain rfl : i = N := by omega
        have HF := Lib.hid (show ¬ LongFr L from fun h => by
          rcases h with h | ⟨x, hx, h⟩
          · exact H3.out (by rw [HN.out] at h; exact h)
          · exact HG.out x (by rw [take_all HN.out]; exact hx) h)
        go_wp2
        go_ret
        exact ⟨false, rfl, by simpa using HF.out, HB.out⟩
end Go.Proofs.Ytpihogkhfmijcaa
