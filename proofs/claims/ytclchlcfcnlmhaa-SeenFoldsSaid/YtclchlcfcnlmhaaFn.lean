/- Ranges change places; rotation. -/
import Derived.Test.YtclchlcfcnlmhaaFm
namespace Go.Proofs.Ytclchlcfcnlmhaa
open Go.RowKit Go.Maps Go.Shelf
set_option linter.unusedSimpArgs false
set_option linter.unusedVariables false
def swk (A X Y Z B : List MK) (k : Nat) : List MK := A ++ (Z.take k ++ (X.drop k ++ (Y ++ (X.take k ++ (Z.drop k ++ B)))))
theorem swk_here (A X Y Z B : List MK) {k : Nat} {x z : MK} (hx : X[k]? = some x) (hz : Z[k]? = some z) : swk A X Y Z B k = (A ++ Z.take k) ++ x :: ((X.drop (k + 1) ++ (Y ++ X.take k)) ++ z :: (Z.drop (k + 1) ++ B)) ∧
    swk A X Y Z B (k + 1) = (A ++ Z.take k) ++ z :: ((X.drop (k + 1) ++ (Y ++ X.take k)) ++ x :: (Z.drop (k + 1) ++ B)) := by
  constructor
  · unfold swk
    rw [drop_cons hx, drop_cons hz]
    simp
  · unfold swk
    rw [take_snoc hx, take_snoc hz]
    simp
set_option maxRecDepth 100000 in
set_option maxHeartbeats 4000000 in
theorem swr_any (base : Nat) (w0 : World) (g L cap a b n : Nat) (A X Y Z B : List MK) (w : World) (h : InP base w0 w g L cap (A ++ (X ++ (Y ++ (Z ++ B))))) (ha : A.length = a) (hX : X.length = n) (hZ : Z.length = n) (hb : a + n + Y.length = b) (hL : L ≤ 100000) :
    Calls Try.prog 63 #[.slice (some ⟨g, 0, none⟩) L cap, .int .i64 (a : Nat), .int .i64 (b : Nat), .int .i64 (n : Nat), ordV] w fun e w' => e = .returned (.tuple #[]) ∧ InP base w0 w' g L cap (A ++ (Z ++ (Y ++ (X ++ B)))) := by
  have H := Lib.hid h
  have HA := Lib.hid (And.intro ha (And.intro hX (And.intro hZ hb)))
  have hbL : b + n ≤ L := by have := h.len; simp at this; omega
  have hab : a + n ≤ b := by omega
  clear h ha hX hZ hb
  unfold ordV
  go_enter Try.func63, Try.ntmps63
  go_wp2
  go_loopw [10] (fun iv wr => ∃ k : Nat, k ≤ n ∧ iv = .int .i64 (k : Nat) ∧ Hid (InP base w0 wr g L cap (swk A X Y Z B k))) (fun iv _ => n - (intOf iv).toNat)
  case atStart => exact ⟨0, Nat.zero_le _, rfl, Lib.hid (by have := H.out; simpa [swk] using this)⟩
  case round =>
    obtain ⟨k, hk, rfl, HR⟩ := hrel
    by_cases hlt : k < n
    · have hltz : (k : Int) < (n : Int) := by omega
      obtain ⟨x, hx⟩ : ∃ x, X[k]? = some x := ⟨_, List.getElem?_eq_getElem (by have := HA.out; omega)⟩
      obtain ⟨z, hz⟩ : ∃ z, Z[k]? = some z := ⟨_, List.getElem?_eq_getElem (by have := HA.out; omega)⟩
      have HS := Lib.hid (swk_here A X Y Z B hx hz)
      have hT := HR.out
      rw [HS.out.1] at hT
      obtain ⟨i, hi⟩ : ∃ i, a + k = i := ⟨_, rfl⟩
      obtain ⟨j, hj⟩ : ∃ j, b + k = j := ⟨_, rfl⟩
      have hU : (A ++ Z.take k).length = i := by have := HA.out; simp; omega
      have hV : i + 1 + (X.drop (k + 1) ++ (Y ++ X.take k)).length = j := by have := HA.out; simp; omega
      obtain ⟨c0, c1, c2⟩ := hT.cells (k := i) (by rw [← hU]; exact mid_a) wr (Below.refl _ _)
      obtain ⟨c3, c4, c5⟩ := hT.cells (k := j) (by rw [← hV, ← hU]; exact mid_b) wr (Below.refl _ _)
      have hiL : i < L := by omega
      have hjL : j < L := by omega
      obtain ⟨-, -, -, z0, z1, z2⟩ := hT.fz hiL
      obtain ⟨-, -, -, z3, z4, z5⟩ := hT.fz hjL
      have HT := Lib.hid (show InP base w0 (put3 (put3 wr g (i * 3) z) g (j * 3) x).drew g L cap (swk A X Y Z B (k + 1)) from by rw [HS.out.2]; exact hT.swa hU hV)
      have hij : i ≠ j := by omega
      have hiz : (a : Int) + (k : Int) = (i : Int) := by omega
      have hjz : (b : Int) + (k : Int) = (j : Int) := by omega
      have HLT := Lib.hid (And.intro hk hlt)
      clear hT hU hV hx hz hi hj hk hlt hbL hab
      go_wp2_with fail
      go_region
      go_wp2
      go_roundw
      case rel => exact ⟨k + 1, HLT.out.2, by go_num, HT.out⟩
      case measure => have := HLT.out.2; simp [intOf]; omega
    · obtain rfl : k = n := by omega
      have HE := Lib.hid (show InP base w0 wr g L cap (A ++ (Z ++ (Y ++ (X ++ B)))) from by
        have := HR.out
        have h1 := HA.out
        unfold swk at this
        rwa [List.take_of_length_le (by omega), List.drop_of_length_le (by omega), List.take_of_length_le (by omega), List.drop_of_length_le (by omega)] at this)
      have hltz : ¬ (k : Int) < (k : Int) := by omega
      go_wp2
      exact bodyPost_end (results_none rfl _ _ _) rfl ⟨rfl, HE.out⟩
theorem rot_gt {A' U' V' B' T : List MK} {a i j : Nat} (ha : A'.length = a) (hU : U'.length = i) (hV : V'.length = j) (hT : A' ++ (V' ++ (U' ++ B')) = T) (hij : j < i) (hj : 0 < j) :
    ∃ X Y, A' ++ (U' ++ (V' ++ B')) = A' ++ (X ++ (Y ++ (V' ++ B'))) ∧ X.length = j ∧ a + j + Y.length = a + i ∧ (A' ++ V').length = a + j ∧ Y.length = i - j ∧ A' ++ (V' ++ (Y ++ (X ++ B'))) = (A' ++ V') ++ (Y ++ (X ++ B')) ∧ (A' ++ V') ++ (X ++ (Y ++ B')) = T := by
  refine ⟨U'.take j, U'.drop j, by rw [← List.append_assoc (U'.take j), List.take_append_drop], by simp; omega, by simp; omega, by simp; omega, by simp; omega, by simp, ?_⟩
  rw [← hT, List.append_assoc, ← List.append_assoc (U'.take j), List.take_append_drop]
theorem rot_lt {A' U' V' B' T : List MK} {a i j : Nat} (ha : A'.length = a) (hU : U'.length = i) (hV : V'.length = j) (hT : A' ++ (V' ++ (U' ++ B')) = T) (hij : i < j) (hj : 0 < i) :
    ∃ X Y, A' ++ (U' ++ (V' ++ B')) = A' ++ (U' ++ (X ++ (Y ++ B'))) ∧ Y.length = i ∧ X.length = j - i ∧ a + i + X.length = a + j ∧ A' ++ (Y ++ (X ++ (U' ++ B'))) = A' ++ (Y ++ (X ++ (U' ++ B'))) ∧ A' ++ (X ++ (Y ++ (U' ++ B'))) = T := by
  refine ⟨V'.take (j - i), V'.drop (j - i), by rw [← List.append_assoc (V'.take _), List.take_append_drop], by simp; omega, by simp; omega, by simp; omega, rfl, ?_⟩
  rw [← hT, ← List.append_assoc (V'.take _), List.take_append_drop]
structure RotAt (base : Nat) (w0 wr : World) (g L cap m i j a : Nat) (T A' U' V' B' : List MK) : Prop where
  inp : InP base w0 wr g L cap (A' ++ (U' ++ (V' ++ B')))
  ha : A'.length = a
  hU : U'.length = i
  hV : V'.length = j
  hm : a + i = m
  hi : 0 < i
  hj : 0 < j
  hT : A' ++ (V' ++ (U' ++ B')) = T
set_option maxRecDepth 100000 in
set_option maxHeartbeats 4000000 in
theorem rot_any (base : Nat) (w0 : World) (g L cap a m b : Nat) (A U V B : List MK) (w : World) (h : InP base w0 w g L cap (A ++ (U ++ (V ++ B)))) (ha : A.length = a) (hm : a + U.length = m) (hb : m + V.length = b) (h1 : a < m) (h2 : m < b) (hL : L ≤ 100000) :
    Calls Try.prog 62 #[.slice (some ⟨g, 0, none⟩) L cap, .int .i64 (a : Nat), .int .i64 (m : Nat), .int .i64 (b : Nat), ordV] w fun e w' => e = .returned (.tuple #[]) ∧ InP base w0 w' g L cap (A ++ (V ++ (U ++ B))) := by
  obtain ⟨i, hi⟩ : ∃ i, m - a = i := ⟨_, rfl⟩
  obtain ⟨j, hj⟩ : ∃ j, b - m = j := ⟨_, rfl⟩
  have H := Lib.hid (show RotAt base w0 w g L cap m i j a (A ++ (V ++ (U ++ B))) A U V B from ⟨h, ha, by omega, by omega, by omega, by omega, by omega, rfl⟩)
  have hbL : b ≤ L := by have := h.len; simp at this; omega
  have e1 : (m : Int) - (a : Int) = (i : Int) := by omega
  have e2 : (b : Int) - (m : Int) = (j : Int) := by omega
  obtain ⟨T, hT⟩ : ∃ T, A ++ (V ++ (U ++ B)) = T := ⟨_, rfl⟩
  rw [hT] at H ⊢
  clear h ha hm hb hT hi hj
  unfold ordV
  go_enter Try.func62, Try.ntmps62
  go_wp2
  go_loopw [10, 11] (fun iv jv wr => ∃ i j a' A' U' V' B', iv = .int .i64 (i : Nat) ∧ jv = .int .i64 (j : Nat) ∧ Hid (RotAt base w0 wr g L cap m i j a' T A' U' V' B')) (fun iv jv _ => (intOf iv).toNat + (intOf jv).toNat)
  case atStart => exact ⟨i, j, a, A, U, V, B, rfl, rfl, H⟩
  case round =>
    clear H e1 e2
    obtain ⟨i, j, a', A', U', V', B', rfl, rfl, HR⟩ := hrel
    have hma : (m : Int) - (i : Int) = (a' : Int) := by have := HR.out.hm; omega
    have HLEN := Lib.hid (show a' + i + j ≤ L by have := HR.out.inp.len; have h1 := HR.out.ha; have h2 := HR.out.hU; have h3 := HR.out.hV; simp at this; omega)
    have hjL : j ≤ 100000 := by have := HLEN.out; omega
    have hiL : i ≤ 100000 := by have := HLEN.out; omega
    rcases Nat.lt_trichotomy i j with hlt | heq | hgt
    · obtain ⟨X, Y, q1, q2, q3, q4, -, q6⟩ := rot_lt HR.out.ha HR.out.hU HR.out.hV HR.out.hT hlt HR.out.hi
      obtain ⟨c, hc⟩ : ∃ c, a' + j = c := ⟨_, rfl⟩
      have hcz : (m : Int) + (j : Int) - (i : Int) = (c : Int) := by have := HR.out.hm; omega
      have hjz : (j : Int) - (i : Int) = ((j - i : Nat) : Int) := by omega
      have HC := Lib.hid (swr_any base w0 g L cap a' c i A' U' X Y B' wr (by have := HR.out.inp; rwa [q1] at this) HR.out.ha HR.out.hU q2 (by omega) hL)
      have HN := Lib.hid (show ∀ w4, InP base w0 w4 g L cap (A' ++ (Y ++ (X ++ (U' ++ B')))) → RotAt base w0 w4 g L cap m i (j - i) a' T A' Y X (U' ++ B') from fun w4 h4 => ⟨h4, HR.out.ha, q2, q3, HR.out.hm, HR.out.hi, by omega, q6⟩)
      have hne : ¬ (i : Int) = (j : Int) := by omega
      have hng : ¬ (j : Int) < (i : Int) := by omega
      have HLT := Lib.hid hlt
      have HI0 := Lib.hid HR.out.hi
      clear q1 q2 q3 q4 q6 hlt hc HR
      go_wp2_with fail
      refine HC.out.mono ?_
      rintro e w4 ⟨rfl, h4⟩
      have H4 := Lib.hid h4
      clear h4 HC
      go_wp2
      go_roundw
      case rel => exact ⟨i, j - i, a', A', Y, X, U' ++ B', by go_num, by go_num, Lib.hid (HN.out _ H4.out)⟩
      case measure => have := HLT.out; have := HI0.out; simp [intOf]; omega
    · subst heq
      have HC := Lib.hid (swr_any base w0 g L cap a' m i A' U' [] V' B' wr HR.out.inp HR.out.ha HR.out.hU HR.out.hV (by have := HR.out.hm; simpa using this) hL)
      have HN := Lib.hid HR.out.hT
      clear HR
      go_wp2_with fail
      refine HC.out.mono ?_
      rintro e w4 ⟨rfl, h4⟩
      rw [List.nil_append, HN.out] at h4
      have H4 := Lib.hid h4
      clear h4 HC
      go_wp2
      exact bodyPost_end (results_none rfl _ _ _) rfl ⟨rfl, H4.out⟩
    · obtain ⟨X, Y, q1, q2, q3, q4, q5, q6, q7⟩ := rot_gt HR.out.ha HR.out.hU HR.out.hV HR.out.hT hgt HR.out.hj
      have hjz : (i : Int) - (j : Int) = ((i - j : Nat) : Int) := by omega
      have HC := Lib.hid (swr_any base w0 g L cap a' m j A' X Y V' B' wr (by have := HR.out.inp; rwa [q1] at this) HR.out.ha q2 HR.out.hV (by have := HR.out.hm; omega) hL)
      have HN := Lib.hid (show ∀ w4, InP base w0 w4 g L cap (A' ++ (V' ++ (Y ++ (X ++ B')))) → RotAt base w0 w4 g L cap m (i - j) j (a' + j) T (A' ++ V') Y X B' from fun w4 h4 => ⟨by rwa [q6] at h4, q4, q5, q2, by have := HR.out.hm; omega, by omega, HR.out.hj, q7⟩)
      have hne : ¬ (i : Int) = (j : Int) := by omega
      have hng : (j : Int) < (i : Int) := by omega
      have HLT := Lib.hid hgt
      have HI0 := Lib.hid HR.out.hj
      clear q1 q2 q3 q4 q5 q6 q7 hgt HR
      go_wp2_with fail
      refine HC.out.mono ?_
      rintro e w4 ⟨rfl, h4⟩
      have H4 := Lib.hid h4
      clear h4 HC
      go_wp2
      go_roundw
      case rel => exact ⟨i - j, j, a' + j, A' ++ V', Y, X, B', by go_num, by go_num, Lib.hid (HN.out _ H4.out)⟩
      case measure => have := HLT.out; have := HI0.out; simp [intOf]; omega
end Go.Proofs.Ytclchlcfcnlmhaa
