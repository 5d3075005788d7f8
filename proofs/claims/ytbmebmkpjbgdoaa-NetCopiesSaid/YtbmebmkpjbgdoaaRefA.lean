/- The document's net: Find. -/
import Derived.Test.YtbmebmkpjbgdoaaRef9
import Derived.Test.YtbmebmkpjbgdoaaFind
namespace Go.Proofs.Ytbmebmkpjbgdoaa
open Go.RowKit
theorem find_none (d : Nt) (to fr : Int) (h : ∀ (j : Nat) m, fr ≤ j → d.bag[j]? = some m → d.goes to m = false) : d.find to fr = (0, false) := by
  unfold Nt.find
  rw [findFrom_none]
  intro m hm
  obtain ⟨j, hj⟩ := List.getElem?_of_mem hm
  rw [List.getElem?_drop] at hj
  exact h _ m (by omega) hj
theorem find_some (d : Nt) (to fr : Int) (k : Nat) (m : Msg) (hk : fr ≤ k) (hm : d.bag[k]? = some m) (hg : d.goes to m = true) (h : ∀ (j : Nat) m, j < k → fr ≤ j → d.bag[j]? = some m → d.goes to m = false) : d.find to fr = ((k : Int), true) := by
  unfold Nt.find
  have h0 : fr.toNat ≤ k := by omega
  rw [findFrom_some d to _ fr.toNat (k - fr.toNat) m (by rw [List.getElem?_drop, show fr.toNat + (k - fr.toNat) = k by omega]; exact hm) (fun i x hi hx => by
    rw [List.getElem?_drop] at hx
    exact h _ x (by omega) (by omega) hx) hg]
  dsimp only
  rw [show fr.toNat + (k - fr.toNat) = k by omega]
set_option maxRecDepth 100000 in
set_option maxHeartbeats 2000000 in
theorem rfind_any {w : World} {R : Bks} {q : Nat} {d : Nt} (h : RefAt w R q d) (to fr : Int) :
    Calls Try.prog 40 #[.pointer (some ⟨q, 0, none⟩), .int .i64 to, .int .i64 fr] w fun e w' => e = .returned (.tuple #[.int .i64 (d.find to fr).1, .bool (d.find to fr).2]) ∧ Below w.heap.size w w' := by
  obtain ⟨ho, bv, cv, vs, ps, h⟩ := h
  obtain ⟨sa, sc, rfl⟩ := h.row.form
  obtain ⟨L, hL⟩ : ∃ L, vs.length = L := ⟨_, rfl⟩
  have HLL : Hid (vs.length = L ∧ d.bag.length = L) := ⟨hL, by rw [← h.len]; exact hL⟩
  have HP := Lib.hid h
  have hmany := ho.len
  have hL64 : L ≤ 64 := by rw [← hL, h.len]; exact hmany
  have HOPEN : Hid (∀ W, Below w.heap.size w W → ∀ a b, Calls Try.prog 41 #[.pointer (some ⟨q, 0, none⟩), .int .i64 a, .int .i64 b] W fun e w' => e = .returned (.bool (d.isOpen a b)) ∧ Below W.heap.size W w') := fun W hb a b => ropen_any (h.below hb) a b
  have HNO : Hid (∀ (k : Nat), L ≤ k → (∀ (j : Nat) m, j < k → fr ≤ j → d.bag[j]? = some m → d.goes to m = false) → d.find to fr = (0, false)) := fun k hk hx => find_none d to fr fun j m hj hm => hx j m (by
    have := (List.getElem?_eq_some_iff.1 hm).1
    have := HLL.out.2
    omega) hj hm
  clear h ho hL hmany
  go_enter Try.func40, Try.ntmps40
  go_wp2
  go_loopw [8] (fun i wr => ∃ k : Nat, k ≤ L ∧ i = .int .i64 (k : Nat) ∧ Hid (Below w.heap.size w wr ∧ ∀ (j : Nat) m, j < k → fr ≤ j → d.bag[j]? = some m → d.goes to m = false)) (fun i _ => L - (intOf i).toNat)
  case atStart => exact ⟨0, Nat.zero_le _, rfl, Below.refl _ _, fun j m hj => by omega⟩
  case round =>
    obtain ⟨k, hk, rfl, HW⟩ := hrel
    have hP := HP.out.below HW.out.1
    have c1 := hP.c1
    rw [HLL.out.1] at c1
    by_cases hlt : k < L
    · obtain ⟨m, hm⟩ : ∃ m, d.bag[k]? = some m := ⟨_, List.getElem?_eq_getElem (by rw [HLL.out.2]; exact hlt)⟩
      obtain ⟨u, hv, _⟩ := hP.at hm
      have hg : ∃ g, sa = some ⟨g, 0, none⟩ := by
        rcases HP.out.row.2 with ⟨h1, h0⟩ | ⟨g, cap', cur, hv', _⟩
        · rw [HLL.out.1] at h0; omega
        · injection hv' with e1; exact ⟨g, e1⟩
      obtain ⟨g, rfl⟩ := hg
      have e0 : wr.cell? ⟨g, k * 3, none⟩ = some (.int .i64 m.fr) := hP.row.cell hv 0 (by omega)
      have e1 : wr.cell? ⟨g, k * 3 + 1, none⟩ = some (.int .i64 m.to) := hP.row.cell hv 1 (by omega)
      have HM := Lib.hid hm
      have HNEXT : Hid (d.goes to m = false ∨ ¬ fr ≤ k → ∀ (j : Nat) x, j < k + 1 → fr ≤ j → d.bag[j]? = some x → d.goes to x = false) := fun hx j x hj hf he => by
        by_cases hjk : j < k
        · exact HW.out.2 j x hjk hf he
        · obtain rfl : j = k := by omega
          rw [HM.out] at he
          injection he with he
          subst he
          rcases hx with hx | hx
          · exact hx
          · exact absurd hf hx
      clear hm hv hP
      by_cases hf : fr ≤ (k : Int)
      · by_cases ht : m.to = to
        · have hteq : (m.to == to) = true := by simp [ht]
          have hO := HOPEN.out wr HW.out.1 m.fr to
          have HG : Hid (d.goes to m = d.isOpen m.fr to) := by unfold Hid Nt.goes; rw [hteq, ht]; rfl
          cases hop : d.isOpen m.fr to
          · rw [hop] at hO
            have HO := Lib.hid hO
            have HG0 : Hid (d.goes to m = false) := by have := HG.out; rw [hop] at this; exact this
            clear hO hop HG
            go_wp2_with (go_at_call 41; refine HO.out.mono ?_; rintro e w2 ⟨rfl, hb2⟩; have HB2 := Lib.hid hb2; clear hb2)
            go_roundw
            case rel => exact ⟨k + 1, by omega, by go_num, HW.out.1.trans (HB2.out.mono HW.out.1.size), HNEXT.out (.inl HG0.out)⟩
            case measure => simp [intOf]; omega
          · rw [hop] at hO
            have HO := Lib.hid hO
            have HG0 : Hid (d.goes to m = true) := by have := HG.out; rw [hop] at this; exact this
            have HRES : Hid (d.find to fr = ((k : Int), true)) := find_some d to fr k m hf HM.out HG0.out HW.out.2
            clear hO hop HG
            go_wp2_with (go_at_call 41; refine HO.out.mono ?_; rintro e w2 ⟨rfl, hb2⟩; have HB2 := Lib.hid hb2; clear hb2)
            exact bodyPost_ret (results_tmp2 (t := 6) (u := 7) rfl _ _ _) rfl ⟨by rw [HRES.out]; rfl, HW.out.1.trans (HB2.out.mono HW.out.1.size)⟩
        · have hteq : (m.to == to) = false := by simp [ht]
          have HG0 : Hid (d.goes to m = false) := by unfold Hid Nt.goes; rw [hteq]; rfl
          go_wp2
          go_roundw
          case rel => exact ⟨k + 1, by omega, by go_num, HW.out.1, HNEXT.out (.inl HG0.out)⟩
          case measure => simp [intOf]; omega
      · have hf' : (k : Int) < fr := by omega
        have HNF : Hid (¬ fr ≤ (k : Int)) := hf
        clear hf
        go_wp2
        go_roundw
        case rel => exact ⟨k + 1, by omega, by go_num, HW.out.1, HNEXT.out (.inr HNF.out)⟩
        case measure => simp [intOf]; omega
    · obtain rfl : k = L := by omega
      have HRES : Hid (d.find to fr = (0, false)) := HNO.out k (Nat.le_refl _) HW.out.2
      clear hP
      go_wp2
      exact bodyPost_ret (results_tmp2 (t := 6) (u := 7) rfl _ _ _) rfl ⟨by rw [HRES.out]; rfl, HW.out.1⟩
end Go.Proofs.Ytbmebmkpjbgdoaa
