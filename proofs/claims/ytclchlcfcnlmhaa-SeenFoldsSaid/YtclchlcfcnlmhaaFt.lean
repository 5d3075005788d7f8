/- A row turned round. -/
import Derived.Test.YtclchlcfcnlmhaaFm
namespace Go.Proofs.Ytclchlcfcnlmhaa
open Go.RowKit Go.Maps Go.Shelf
set_option linter.unusedSimpArgs false
set_option linter.unusedVariables false
theorem two_ends : ∀ {M : List MK}, 2 ≤ M.length → ∃ x M' y, M = x :: (M' ++ [y])
  | [], h => by simp at h
  | x :: M, h => by
    rcases List.eq_nil_or_concat M with rfl | ⟨M', y, rfl⟩
    · simp at h
    · exact ⟨x, M', y, by rw [List.concat_eq_append]⟩
set_option maxRecDepth 100000 in
set_option maxHeartbeats 4000000 in
theorem rev_any (base : Nat) (w0 : World) (g L cap : Nat) (T : List MK) (w : World) (h : InP base w0 w g L cap T) (hL : L ≤ 100000) :
    Calls Try.prog 44 #[.slice (some ⟨g, 0, none⟩) L cap] w fun e w' => e = .returned (.tuple #[]) ∧ InP base w0 w' g L cap T.reverse := by
  have H := Lib.hid h
  clear h
  go_enter Try.func44, Try.ntmps44
  go_wp2
  go_loopw [2, 3] (fun iv jv wr => ∃ k A M B, iv = .int .i64 (k : Nat) ∧ jv = .int .i64 ((L : Int) - 1 - (k : Int)) ∧ Hid (InP base w0 wr g L cap (A ++ (M ++ B)) ∧ A.length = k ∧ B.length = k ∧ A ++ (M.reverse ++ B) = T.reverse)) (fun iv jv _ => L - (intOf iv).toNat)
  case atStart => exact ⟨0, [], T, [], rfl, by simp, Lib.hid ⟨by simpa using H.out, rfl, rfl, by simp⟩⟩
  case round =>
    obtain ⟨k, A, M, B, rfl, rfl, HR⟩ := hrel
    have hlen : k + (M.length + k) = L := by have := HR.out.1.len; have h1 := HR.out.2.1; have h2 := HR.out.2.2.1; simp at this; omega
    by_cases hlt : 2 ≤ M.length
    · obtain ⟨j, hj⟩ : ∃ j, L - 1 - k = j := ⟨_, rfl⟩
      have hjz : (L : Int) - 1 - (k : Int) = (j : Int) := by omega
      have hltz : (k : Int) < (j : Int) := by omega
      obtain ⟨x, M', y, rfl⟩ := two_ends hlt
      have hT : InP base w0 wr g L cap (A ++ x :: (M' ++ y :: B)) := by have := HR.out.1; simpa using this
      have hU := HR.out.2.1
      have hV : k + 1 + M'.length = j := by simp at hlen; omega
      obtain ⟨c0, c1, c2⟩ := hT.cells (k := k) (by rw [← hU]; exact mid_a) wr (Below.refl _ _)
      obtain ⟨c3, c4, c5⟩ := hT.cells (k := j) (by rw [← hV, ← hU]; exact mid_b) wr (Below.refl _ _)
      have hkL : k < L := by omega
      have hjL : j < L := by omega
      obtain ⟨-, -, -, z0, z1, z2⟩ := hT.fz hkL
      obtain ⟨-, -, -, z3, z4, z5⟩ := hT.fz hjL
      have hkj : k ≠ j := by omega
      have HN := Lib.hid (show InP base w0 (put3 (put3 wr g (k * 3) y) g (j * 3) x).drew g L cap ((A ++ [y]) ++ (M' ++ (x :: B))) ∧ (A ++ [y]).length = k + 1 ∧ (x :: B).length = k + 1 ∧ (A ++ [y]) ++ (M'.reverse ++ (x :: B)) = T.reverse from
        ⟨by have := hT.swa hU hV; simpa using this, by simp [hU], by simp [HR.out.2.2.1], by have := HR.out.2.2.2; simp at this ⊢; exact this⟩)
      have HLT := Lib.hid (And.intro hkL hjz)
      rw [hjz]
      clear hT hU hV hlen hlt hj HR hjz
      go_wp2_with fail
      go_region
      go_wp2
      go_roundw
      case rel => exact ⟨k + 1, A ++ [y], M', x :: B, by go_num, by have := HLT.out.2; congr 1; omega, HN.out⟩
      case measure => have := HLT.out; simp [intOf]; omega
    · have hltz : ¬ (k : Int) < (L : Int) - 1 - (k : Int) := by omega
      have HE := Lib.hid (show InP base w0 wr g L cap T.reverse from by
        have h1 := HR.out.2.2.2
        have h2 : M.reverse = M := by
          cases M with
          | nil => rfl
          | cons x M =>
            cases M with
            | nil => rfl
            | cons y M => simp at hlt
        rw [h2] at h1
        rw [← h1]
        exact HR.out.1)
      go_wp2
      exact bodyPost_end (results_none rfl _ _ _) rfl ⟨rfl, HE.out⟩
end Go.Proofs.Ytclchlcfcnlmhaa
