/- symMerge: many before many. -/
import Derived.Test.YtclchlcfcnlmhaaFq
namespace Go.Proofs.Ytclchlcfcnlmhaa
open Go.RowKit Go.Maps Go.Shelf
set_option linter.unusedSimpArgs false
set_option linter.unusedVariables false
/-- symMerge of at most d marks does what it should -/
def SymOk (base : Nat) (w0 : World) (g L cap d : Nat) : Prop := ∀ (A M1 M2 B : List MK) (a m b : Nat) (w : World), InP base w0 w g L cap (A ++ (M1 ++ (M2 ++ B))) → A.length = a → a + M1.length = m → m + M2.length = b → a < m → m < b → b - a ≤ d → Srt M1 → Srt M2 →
  Calls Try.prog 61 #[.slice (some ⟨g, 0, none⟩) L cap, .int .i64 (a : Nat), .int .i64 (m : Nat), .int .i64 (b : Nat), ordV] w fun e w' => e = .returned (.tuple #[]) ∧ ∃ M', InP base w0 w' g L cap (A ++ (M' ++ B)) ∧ St (M1 ++ M2) M' ∧ Srt M'
theorem get_m1 {A M1 M2 B : List MK} {a k : Nat} {x : MK} (ha : A.length = a) (hx : M1[k]? = some x) : (A ++ (M1 ++ (M2 ++ B)))[a + k]? = some x := by
  have := get_lt hx
  rw [List.getElem?_append_right (by omega), show a + k - A.length = k by omega, List.getElem?_append_left this, hx]
theorem get_m2 {A M1 M2 B : List MK} {a m k : Nat} {x : MK} (ha : A.length = a) (hm : a + M1.length = m) (hx : M2[k]? = some x) : (A ++ (M1 ++ (M2 ++ B)))[m + k]? = some x := by
  have := get_lt hx
  rw [List.getElem?_append_right (by omega), List.getElem?_append_right (by omega), show m + k - A.length - M1.length = k by omega, List.getElem?_append_left this, hx]
structure SymAt (A M1 M2 : List MK) (a m b n1 n2 D mid d : Nat) : Prop where
  ha : A.length = a
  h1 : M1.length = n1
  h2 : M2.length = n2
  hm : a + n1 = m
  hb : m + n2 = b
  hmid : a + D = mid
  hD : (a + b) / 2 = mid
  hd : b - a ≤ d + 1
  two1 : 2 ≤ n1
  two2 : 2 ≤ n2
  s1 : Srt M1
  s2 : Srt M2
set_option maxRecDepth 100000 in
set_option maxHeartbeats 8000000 in
theorem sym_mid (base : Nat) (w0 : World) (g L cap a m b d : Nat) (hIH : SymOk base w0 g L cap d) (A M1 M2 B : List MK) (w : World) (h : InP base w0 w g L cap (A ++ (M1 ++ (M2 ++ B)))) (ha : A.length = a) (hm : a + M1.length = m) (hb : m + M2.length = b) (h1 : a + 2 ≤ m) (h2 : m + 2 ≤ b) (hd : b - a ≤ d + 1) (hs1 : Srt M1) (hs2 : Srt M2) (hL : L ≤ 100000) :
    Calls Try.prog 61 #[.slice (some ⟨g, 0, none⟩) L cap, .int .i64 (a : Nat), .int .i64 (m : Nat), .int .i64 (b : Nat), ordV] w fun e w' => e = .returned (.tuple #[]) ∧ ∃ M', InP base w0 w' g L cap (A ++ (M' ++ B)) ∧ St (M1 ++ M2) M' ∧ Srt M' := by
  have H := Lib.hid h
  have HIH := Lib.hid hIH
  obtain ⟨n1, hn1⟩ : ∃ n, M1.length = n := ⟨_, rfl⟩
  obtain ⟨n2, hn2⟩ : ∃ n, M2.length = n := ⟨_, rfl⟩
  obtain ⟨mid, hmid⟩ : ∃ n, (a + b) / 2 = n := ⟨_, rfl⟩
  obtain ⟨D, hD⟩ : ∃ n, a + n = mid := ⟨mid - a, by omega⟩
  rw [hn1] at hm; rw [hn2] at hb
  have HS := Lib.hid (show SymAt A M1 M2 a m b n1 n2 D mid d from ⟨ha, hn1, hn2, hm, hb, hD, hmid, hd, by omega, by omega, hs1, hs2⟩)
  have hbL : b ≤ L := by have := h.len; simp at this; omega
  have HBL := Lib.hid hbL
  have e1 : (m : Int) - (a : Int) = (n1 : Int) := by omega
  have e2 : (b : Int) - (m : Int) = (n2 : Int) := by omega
  have e3 : ((n1 : Int) == 1) = false := beq_eq_false_iff_ne.2 (by omega)
  have e4 : ((n2 : Int) == 1) = false := beq_eq_false_iff_ne.2 (by omega)
  have hmL : m ≤ 100000 := by omega
  have haL : a ≤ 100000 := by omega
  have hmidL : mid ≤ 100000 := by omega
  have hmz : ((a : Int) + (b : Int)) / 2 = (mid : Int) := by omega
  obtain ⟨N, hN⟩ : ∃ N, mid + m = N := ⟨_, rfl⟩
  have hNz : (mid : Int) + (m : Int) = (N : Int) := by omega
  obtain ⟨P, hP⟩ : ∃ P, N = P + 1 := ⟨N - 1, by omega⟩
  have hPz : (N : Int) - 1 = (P : Int) := by omega
  have HNP := Lib.hid (And.intro hN hP)
  have hen := enters_of (P := Try.prog) (f := 46) Try.func46 (by kernel_rfl) rfl
  clear h hIH
  by_cases hmm : (mid : Int) < (m : Int)
  · obtain ⟨S0, hS0⟩ : ∃ S, a + (D - n2) = S := ⟨_, rfl⟩
    have hsz : (N : Int) - (b : Int) = (S0 : Int) := by omega
    have HST := Lib.hid (show a + (D - n2) = S0 ∧ a + D = mid ∧ Cutd M1 M2 D (D - n2) D from ⟨hS0, hD, ⟨by omega, by omega, Nat.le_refl _, by omega, fun k x y hk hk2 => by omega, fun k x y hk hk2 => by omega⟩⟩)
    have hS0L : S0 ≤ 100000 := by omega
    clear ha hm hb hn1 hn2 hmid hD h1 h2 hd hs1 hs2 hN hP hS0 hbL
    unfold ordV
    go_enter Try.func61, Try.ntmps61
    go_wp2
    go_loopw [20, 21, 23] (fun iv jv cv wr => ∃ i j : Nat, iv = .int .i64 ((a + i : Nat) : Int) ∧ jv = .int .i64 ((a + j : Nat) : Int) ∧ Hid (On w wr ∧ Cutd M1 M2 D i j)) (fun iv jv _ _ => (intOf jv).toNat - (intOf iv).toNat)
    case atStart => exact ⟨D - n2, D, by rw [HST.out.1], by rw [HST.out.2.1], Lib.hid ⟨Below.refl _ _, HST.out.2.2⟩⟩
    case round =>
      obtain ⟨i, j, rfl, rfl, HR⟩ := hrel
      obtain ⟨wx, rfl⟩ : ∃ wx : World, wx = wr := ⟨_, rfl⟩
      obtain ⟨I, hI⟩ : ∃ I, a + i = I := ⟨_, rfl⟩
      obtain ⟨J, hJ⟩ : ∃ J, a + j = J := ⟨_, rfl⟩
      rw [hI, hJ]
      have hij := HR.out.2.ij
      have hjD := HR.out.2.hi1
      have hj1 := HR.out.2.hi2
      have hlo := HR.out.2.lo
      have k1 := HS.out.h1
      have k2 := HS.out.h2
      have k3 := HS.out.hm
      have k4 := HS.out.hb
      have k5 := HS.out.hmid
      have k7 := HNP.out
      rw [k1] at hj1; rw [k2] at hlo
      have hJL : J ≤ 100000 := by omega
      have hIL : I ≤ 100000 := by omega
      have HIJ := Lib.hid (And.intro hI hJ)
      by_cases hlt : I < J
      · have hltz : (I : Int) < (J : Int) := by omega
        obtain ⟨c, hc⟩ : ∃ c, (I + J) / 2 = c := ⟨_, rfl⟩
        obtain ⟨k, hk⟩ : ∃ k, a + k = c := ⟨c - a, by omega⟩
        obtain ⟨q, hq⟩ : ∃ q, m + (D - 1 - k) = q := ⟨_, rfl⟩
        have hcz : ((I : Int) + (J : Int)) / 2 = (c : Int) := by omega
        have hqz : (P : Int) - (c : Int) = (q : Int) := by omega
        have hcL : c < L := by have := HBL.out; omega
        have hqL : q < L := by have := HBL.out; omega
        obtain ⟨x, hx⟩ : ∃ x, M1[k]? = some x := ⟨_, List.getElem?_eq_getElem (by omega)⟩
        obtain ⟨y, hy⟩ : ∃ y, M2[D - 1 - k]? = some y := ⟨_, List.getElem?_eq_getElem (by omega)⟩
        have HT := Lib.hid (H.out.on HR.out.1)
        have HG := Lib.hid (show (A ++ (M1 ++ (M2 ++ B)))[c]? = some x ∧ (A ++ (M1 ++ (M2 ++ B)))[q]? = some y from ⟨by rw [← hk]; exact get_m1 HS.out.ha hx, by rw [← hq]; exact get_m2 HS.out.ha (by rw [k1]; exact k3) hy⟩)
        have HCE := Lib.hid (show ∀ W', On wx W' → (W'.cell? ⟨g, c * 3, none⟩ = some (.int .i64 x.p) ∧ W'.cell? ⟨g, c * 3 + 1, none⟩ = some (.int .u64 x.s) ∧ W'.cell? ⟨g, c * 3 + 2, none⟩ = some (.int .u64 x.o)) ∧ (W'.cell? ⟨g, q * 3, none⟩ = some (.int .i64 y.p) ∧ W'.cell? ⟨g, q * 3 + 1, none⟩ = some (.int .u64 y.s) ∧ W'.cell? ⟨g, q * 3 + 2, none⟩ = some (.int .u64 y.o)) from fun W' hb => ⟨HT.out.cells HG.out.1 W' hb, HT.out.cells HG.out.2 W' hb⟩)
        have HO := Lib.hid (show ∃ z : Int, (z < 0 ↔ y.p < x.p) ∧ ∀ W, Calls Try.prog 46 #[y.val, x.val] W fun e w' => e = .returned (.int .i64 z) ∧ Below W.heap.size W w' from ⟨cmpI y.p x.p, by unfold cmpI; split; omega; split <;> omega, fun W => order_any y x W⟩)
        obtain ⟨z, hz, hO1⟩ := HO.out
        have HO1 := Lib.hid hO1
        by_cases hyx : z < 0
        · have HNX := Lib.hid (show Cutd M1 M2 D i k from HR.out.2.down HS.out.s1 HS.out.s2 (by omega) (by omega) hx hy (hz.1 hyx))
          have HCM := Lib.hid (And.intro hk (show k < j ∧ i ≤ k by omega))
          clear hz hij hjD hj1 hlo k1 k2 k3 k4 k5 k7 hx hy hI hJ hc hk hq HO hO1 hlt
          go_wp2_with fail
          refine region_on (by kernel_rfl) (by kernel_rfl) wx (Below.refl _ _) ?_
          repeat (first
            | go_big_quiet_skip
            | (go_big_quiet_want; go_big_quiet_op; (first
              | go_big_quiet_on
              | (apply Exists.intro; refine ⟨fun _ hC => ?_, ?_⟩; with_reducible (first
                  | exact rfl
                  | exact calls_on hC (HO1.out _)
                  | (have hcell := HCE.out _ hC; simp only [hcell, Result.andThen]; (first | exact rfl | exact ⟨rfl, rfl⟩ | exact ⟨trivial, rfl⟩))); go_big_quiet_on))))
          refine wpQuiet_nil ?_
          intro wm hO
          clear HCE
          have HOK := Lib.hid hO
          clear hO
          go_wp2
          go_roundw
          case rel => exact ⟨i, k, by rw [HIJ.out.1], by rw [HCM.out.1], Lib.hid ⟨HR.out.1.trans (HOK.out.mono (Below.size HR.out.1)), HNX.out⟩⟩
          case measure => simp [intOf]; have := HIJ.out; have := HCM.out; omega
        · have HNX := Lib.hid (show Cutd M1 M2 D (k + 1) j from HR.out.2.up HS.out.s1 HS.out.s2 (by omega) (by omega) hx hy (by have := fun h => hyx (hz.2 h); omega))
          have HCM := Lib.hid (And.intro hk (show k < j ∧ i ≤ k by omega))
          have HY3 := Lib.hid (show (!decide (z < 0)) = true from by rw [decide_eq_false hyx]; rfl)
          clear hz hij hjD hj1 hlo k1 k2 k3 k4 k5 k7 hx hy hI hJ hc hk hq HO hO1 hlt
          go_wp2_with fail
          refine region_on (by kernel_rfl) (by kernel_rfl) wx (Below.refl _ _) ?_
          repeat (first
            | go_big_quiet_skip
            | (go_big_quiet_want; go_big_quiet_op; (first
              | go_big_quiet_on
              | (apply Exists.intro; refine ⟨fun _ hC => ?_, ?_⟩; with_reducible (first
                  | exact rfl
                  | exact calls_on hC (HO1.out _)
                  | (have hcell := HCE.out _ hC; simp only [hcell, Result.andThen]; (first | exact rfl | exact ⟨rfl, rfl⟩ | exact ⟨trivial, rfl⟩))); go_big_quiet_on))))
          refine wpQuiet_nil ?_
          intro wm hO
          clear HCE
          rw [HY3.out]
          have HOK := Lib.hid hO
          clear hO
          go_wp2
          go_roundw
          case rel => exact ⟨k + 1, j, by have := HCM.out.1; subst this; go_num, by rw [HIJ.out.2], Lib.hid ⟨HR.out.1.trans (HOK.out.mono (Below.size HR.out.1)), HNX.out⟩⟩
          case measure => simp [intOf]; have := HIJ.out; have := HCM.out; omega
      · have hltz : ¬ (I : Int) < (J : Int) := by omega
        obtain rfl : i = j := by omega
        clear hJ HIJ
        obtain ⟨E, hE⟩ : ∃ E, m + (D - i) = E := ⟨_, rfl⟩
        have hEz : (N : Int) - (I : Int) = (E : Int) := by omega
        obtain ⟨U1, hU1⟩ : ∃ U, M1.take i = U := ⟨_, rfl⟩
        obtain ⟨U2, hU2⟩ : ∃ U, M1.drop i = U := ⟨_, rfl⟩
        obtain ⟨V1, hV1⟩ : ∃ U, M2.take (D - i) = U := ⟨_, rfl⟩
        obtain ⟨V2, hV2⟩ : ∃ U, M2.drop (D - i) = U := ⟨_, rfl⟩
        have lU1 : U1.length = i := by rw [← hU1, List.length_take]; omega
        have lU2 : U2.length = n1 - i := by rw [← hU2, List.length_drop]; omega
        have lV1 : V1.length = D - i := by rw [← hV1, List.length_take]; omega
        have lV2 : V2.length = n2 - (D - i) := by rw [← hV2, List.length_drop]; omega
        have HSO := Lib.hid (show Srt U1 ∧ Srt U2 ∧ Srt V1 ∧ Srt V2 from ⟨hU1 ▸ srt_take HS.out.s1 _, hU2 ▸ srt_drop HS.out.s1 _, hV1 ▸ srt_take HS.out.s2 _, hV2 ▸ srt_drop HS.out.s2 _⟩)
        have HF := Lib.hid (show ∀ L' R', St (U1 ++ V1) L' → Srt L' → St (U2 ++ V2) R' → Srt R' → St (M1 ++ M2) (L' ++ R') ∧ Srt (L' ++ R') from fun L' R' a1 a2 a3 a4 => by
          refine HR.out.2.fin HS.out.s1 HS.out.s2 ?_ a2 ?_ a4
          · rw [hU1, hV1]; exact a1
          · rw [hU2, hV2]; exact a3)
        have HI0 := Lib.hid (show InP base w0 wx g L cap (A ++ (U1 ++ (U2 ++ (V1 ++ (V2 ++ B))))) from by
          have := H.out.on HR.out.1
          rw [← List.take_append_drop i M1, ← List.take_append_drop (D - i) M2, hU1, hU2, hV1, hV2] at this
          simpa using this)
        have hEL : E ≤ 100000 := by have := HBL.out; omega
        have k8 := HS.out.two1
        have k9 := HS.out.two2
        have ka := HS.out.ha
        have kd := HS.out.hd
        clear hU1 hU2 hV1 hV2
        rcases Nat.lt_or_ge i n1 with p1 | p1
        · rcases Nat.lt_or_ge i D with p2 | p2
          · rcases Nat.lt_or_ge 0 i with p3 | p3
            · rcases Nat.lt_or_ge (D - i) n2 with p4 | p4
              · first
                  | (exfalso; have hq := HS.out.hD; omega)
                  | (have c1 : (I : Int) < (m : Int) := by omega
                     have c2 : (m : Int) < (E : Int) := by omega
                     have c3 : (a : Int) < (I : Int) := by omega
                     have c4 : (I : Int) < (mid : Int) := by omega
                     have c5 : (mid : Int) < (E : Int) := by omega
                     have c6 : (E : Int) < (b : Int) := by omega
                     have HNF := Lib.hid (show U1.length = i ∧ U2.length = n1 - i ∧ V1.length = D - i ∧ V2.length = n2 - (D - i) ∧ A.length = a ∧ b - a ≤ d + 1 ∧ a + i = I ∧ m + (D - i) = E ∧ i ≤ D ∧ i ≤ n1 ∧ D - n2 ≤ i ∧ a + n1 = m ∧ m + n2 = b ∧ a + D = mid ∧ 2 ≤ n1 ∧ 2 ≤ n2 ∧ i < n1 ∧ i < D ∧ 0 < i ∧ D - i < n2 from ⟨lU1, lU2, lV1, lV2, ka, kd, hI, hE, hjD, hj1, hlo, k3, k4, k5, k8, k9, p1, p2, p3, p4⟩)
                     have HC1 := Lib.hid (rot_any base w0 g L cap I m E (A ++ U1) U2 V1 (V2 ++ B) wx (by have := HI0.out; simpa using this) (by simp; omega) (by omega) (by omega) (by omega) (by omega) hL)
                     clear lU1 lU2 lV1 lV2 ka kd hI hE hij hjD hj1 hlo k1 k2 k3 k4 k5 k7 k8 k9 hlt p1 p2 p3 p4
                     go_wp2_with fail
                     refine HC1.out.mono ?_
                     rintro e w1 ⟨rfl, h1⟩
                     have H1 := Lib.hid (show InP base w0 w1 g L cap (A ++ (U1 ++ (V1 ++ (U2 ++ (V2 ++ B))))) from by simpa using h1)
                     clear h1 HC1
                     have HC2 := Lib.hid (HIH.out A U1 V1 (U2 ++ (V2 ++ B)) a I mid w1 H1.out (by have hh := HNF.out; exact hh.2.2.2.2.1) (by have hh := HNF.out; omega) (by have hh := HNF.out; omega) (by have hh := HNF.out; omega) (by have hh := HNF.out; omega) (by have hh := HNF.out; omega) HSO.out.1 HSO.out.2.2.1)
                     go_wp2_with fail
                     refine HC2.out.mono ?_
                     rintro e w2 ⟨rfl, L', h2, h3, h4⟩
                     have H2 := Lib.hid (And.intro h2 (And.intro h3 h4))
                     clear h2 h3 h4 HC2
                     have HC3 := Lib.hid (HIH.out (A ++ L') U2 V2 B mid E b w2 (by have := H2.out.1; simpa using this) (by have hh := HNF.out; have hl := H2.out.2.1.len; simp at hl ⊢; omega) (by have hh := HNF.out; omega) (by have hh := HNF.out; omega) (by have hh := HNF.out; omega) (by have hh := HNF.out; omega) (by have hh := HNF.out; omega) HSO.out.2.1 HSO.out.2.2.2)
                     go_wp2_with fail
                     refine HC3.out.mono ?_
                     rintro e w3 ⟨rfl, R', h2, h3, h4⟩
                     have HE := Lib.hid (show ∃ M', InP base w0 w3 g L cap (A ++ (M' ++ B)) ∧ St (M1 ++ M2) M' ∧ Srt M' from ⟨L' ++ R', by simpa using h2, HF.out _ _ H2.out.2.1 H2.out.2.2 h3 h4⟩)
                     clear h2 h3 h4 HC3
                     go_wp2
                     exact bodyPost_end (results_none rfl _ _ _) rfl ⟨rfl, HE.out⟩)
              · first
                  | (exfalso; have hq := HS.out.hD; omega)
                  | (have c1 : (I : Int) < (m : Int) := by omega
                     have c2 : (m : Int) < (E : Int) := by omega
                     have c3 : (a : Int) < (I : Int) := by omega
                     have c4 : (I : Int) < (mid : Int) := by omega
                     have c5 : (mid : Int) < (E : Int) := by omega
                     have c6 : ¬ (E : Int) < (b : Int) := by omega
                     have HNF := Lib.hid (show U1.length = i ∧ U2.length = n1 - i ∧ V1.length = D - i ∧ V2.length = n2 - (D - i) ∧ A.length = a ∧ b - a ≤ d + 1 ∧ a + i = I ∧ m + (D - i) = E ∧ i ≤ D ∧ i ≤ n1 ∧ D - n2 ≤ i ∧ a + n1 = m ∧ m + n2 = b ∧ a + D = mid ∧ 2 ≤ n1 ∧ 2 ≤ n2 ∧ i < n1 ∧ i < D ∧ 0 < i ∧ n2 ≤ D - i from ⟨lU1, lU2, lV1, lV2, ka, kd, hI, hE, hjD, hj1, hlo, k3, k4, k5, k8, k9, p1, p2, p3, p4⟩)
                     have HC1 := Lib.hid (rot_any base w0 g L cap I m E (A ++ U1) U2 V1 (V2 ++ B) wx (by have := HI0.out; simpa using this) (by simp; omega) (by omega) (by omega) (by omega) (by omega) hL)
                     clear lU1 lU2 lV1 lV2 ka kd hI hE hij hjD hj1 hlo k1 k2 k3 k4 k5 k7 k8 k9 hlt p1 p2 p3 p4
                     go_wp2_with fail
                     refine HC1.out.mono ?_
                     rintro e w1 ⟨rfl, h1⟩
                     have H1 := Lib.hid (show InP base w0 w1 g L cap (A ++ (U1 ++ (V1 ++ (U2 ++ (V2 ++ B))))) from by simpa using h1)
                     clear h1 HC1
                     have HC2 := Lib.hid (HIH.out A U1 V1 (U2 ++ (V2 ++ B)) a I mid w1 H1.out (by have hh := HNF.out; exact hh.2.2.2.2.1) (by have hh := HNF.out; omega) (by have hh := HNF.out; omega) (by have hh := HNF.out; omega) (by have hh := HNF.out; omega) (by have hh := HNF.out; omega) HSO.out.1 HSO.out.2.2.1)
                     go_wp2_with fail
                     refine HC2.out.mono ?_
                     rintro e w2 ⟨rfl, L', h2, h3, h4⟩
                     have H2 := Lib.hid (And.intro h2 (And.intro h3 h4))
                     clear h2 h3 h4 HC2
                     have HE := Lib.hid (show ∃ M', InP base w0 w2 g L cap (A ++ (M' ++ B)) ∧ St (M1 ++ M2) M' ∧ Srt M' from ⟨L' ++ (U2 ++ V2), by have := H2.out.1; simpa using this, HF.out _ _ H2.out.2.1 H2.out.2.2 (St.refl _) (by have hh := HNF.out; have : V2 = [] := List.eq_nil_of_length_eq_zero (by omega); rw [this, List.append_nil]; exact HSO.out.2.1)⟩)
                     go_wp2
                     exact bodyPost_end (results_none rfl _ _ _) rfl ⟨rfl, HE.out⟩)
            · rcases Nat.lt_or_ge (D - i) n2 with p4 | p4
              · first
                  | (exfalso; have hq := HS.out.hD; omega)
                  | (have c1 : (I : Int) < (m : Int) := by omega
                     have c2 : (m : Int) < (E : Int) := by omega
                     have c3 : ¬ (a : Int) < (I : Int) := by omega
                     have c4 : (I : Int) < (mid : Int) := by omega
                     have c5 : (mid : Int) < (E : Int) := by omega
                     have c6 : (E : Int) < (b : Int) := by omega
                     have HNF := Lib.hid (show U1.length = i ∧ U2.length = n1 - i ∧ V1.length = D - i ∧ V2.length = n2 - (D - i) ∧ A.length = a ∧ b - a ≤ d + 1 ∧ a + i = I ∧ m + (D - i) = E ∧ i ≤ D ∧ i ≤ n1 ∧ D - n2 ≤ i ∧ a + n1 = m ∧ m + n2 = b ∧ a + D = mid ∧ 2 ≤ n1 ∧ 2 ≤ n2 ∧ i < n1 ∧ i < D ∧ i ≤ 0 ∧ D - i < n2 from ⟨lU1, lU2, lV1, lV2, ka, kd, hI, hE, hjD, hj1, hlo, k3, k4, k5, k8, k9, p1, p2, p3, p4⟩)
                     have HC1 := Lib.hid (rot_any base w0 g L cap I m E (A ++ U1) U2 V1 (V2 ++ B) wx (by have := HI0.out; simpa using this) (by simp; omega) (by omega) (by omega) (by omega) (by omega) hL)
                     clear lU1 lU2 lV1 lV2 ka kd hI hE hij hjD hj1 hlo k1 k2 k3 k4 k5 k7 k8 k9 hlt p1 p2 p3 p4
                     go_wp2_with fail
                     refine HC1.out.mono ?_
                     rintro e w1 ⟨rfl, h1⟩
                     have H1 := Lib.hid (show InP base w0 w1 g L cap (A ++ (U1 ++ (V1 ++ (U2 ++ (V2 ++ B))))) from by simpa using h1)
                     clear h1 HC1
                     have H2 := Lib.hid (show InP base w0 w1 g L cap (A ++ ((U1 ++ V1) ++ (U2 ++ (V2 ++ B)))) ∧ St (U1 ++ V1) (U1 ++ V1) ∧ Srt (U1 ++ V1) from ⟨by have := H1.out; simpa using this, St.refl _, by have hh := HNF.out; have : U1 = [] := List.eq_nil_of_length_eq_zero (by omega); rw [this, List.nil_append]; exact HSO.out.2.2.1⟩)
                     have HC3 := Lib.hid (HIH.out (A ++ (U1 ++ V1)) U2 V2 B mid E b w1 (by have := H2.out.1; simpa using this) (by have hh := HNF.out; have hl := H2.out.2.1.len; simp at hl ⊢; omega) (by have hh := HNF.out; omega) (by have hh := HNF.out; omega) (by have hh := HNF.out; omega) (by have hh := HNF.out; omega) (by have hh := HNF.out; omega) HSO.out.2.1 HSO.out.2.2.2)
                     go_wp2_with fail
                     refine HC3.out.mono ?_
                     rintro e w3 ⟨rfl, R', h2, h3, h4⟩
                     have HE := Lib.hid (show ∃ M', InP base w0 w3 g L cap (A ++ (M' ++ B)) ∧ St (M1 ++ M2) M' ∧ Srt M' from ⟨(U1 ++ V1) ++ R', by simpa using h2, HF.out _ _ H2.out.2.1 H2.out.2.2 h3 h4⟩)
                     clear h2 h3 h4 HC3
                     go_wp2
                     exact bodyPost_end (results_none rfl _ _ _) rfl ⟨rfl, HE.out⟩)
              · first
                  | (exfalso; have hq := HS.out.hD; omega)
                  | (have c1 : (I : Int) < (m : Int) := by omega
                     have c2 : (m : Int) < (E : Int) := by omega
                     have c3 : ¬ (a : Int) < (I : Int) := by omega
                     have c4 : (I : Int) < (mid : Int) := by omega
                     have c5 : (mid : Int) < (E : Int) := by omega
                     have c6 : ¬ (E : Int) < (b : Int) := by omega
                     have HNF := Lib.hid (show U1.length = i ∧ U2.length = n1 - i ∧ V1.length = D - i ∧ V2.length = n2 - (D - i) ∧ A.length = a ∧ b - a ≤ d + 1 ∧ a + i = I ∧ m + (D - i) = E ∧ i ≤ D ∧ i ≤ n1 ∧ D - n2 ≤ i ∧ a + n1 = m ∧ m + n2 = b ∧ a + D = mid ∧ 2 ≤ n1 ∧ 2 ≤ n2 ∧ i < n1 ∧ i < D ∧ i ≤ 0 ∧ n2 ≤ D - i from ⟨lU1, lU2, lV1, lV2, ka, kd, hI, hE, hjD, hj1, hlo, k3, k4, k5, k8, k9, p1, p2, p3, p4⟩)
                     have HC1 := Lib.hid (rot_any base w0 g L cap I m E (A ++ U1) U2 V1 (V2 ++ B) wx (by have := HI0.out; simpa using this) (by simp; omega) (by omega) (by omega) (by omega) (by omega) hL)
                     clear lU1 lU2 lV1 lV2 ka kd hI hE hij hjD hj1 hlo k1 k2 k3 k4 k5 k7 k8 k9 hlt p1 p2 p3 p4
                     go_wp2_with fail
                     refine HC1.out.mono ?_
                     rintro e w1 ⟨rfl, h1⟩
                     have H1 := Lib.hid (show InP base w0 w1 g L cap (A ++ (U1 ++ (V1 ++ (U2 ++ (V2 ++ B))))) from by simpa using h1)
                     clear h1 HC1
                     have H2 := Lib.hid (show InP base w0 w1 g L cap (A ++ ((U1 ++ V1) ++ (U2 ++ (V2 ++ B)))) ∧ St (U1 ++ V1) (U1 ++ V1) ∧ Srt (U1 ++ V1) from ⟨by have := H1.out; simpa using this, St.refl _, by have hh := HNF.out; have : U1 = [] := List.eq_nil_of_length_eq_zero (by omega); rw [this, List.nil_append]; exact HSO.out.2.2.1⟩)
                     have HE := Lib.hid (show ∃ M', InP base w0 w1 g L cap (A ++ (M' ++ B)) ∧ St (M1 ++ M2) M' ∧ Srt M' from ⟨(U1 ++ V1) ++ (U2 ++ V2), by have := H2.out.1; simpa using this, HF.out _ _ H2.out.2.1 H2.out.2.2 (St.refl _) (by have hh := HNF.out; have : V2 = [] := List.eq_nil_of_length_eq_zero (by omega); rw [this, List.append_nil]; exact HSO.out.2.1)⟩)
                     go_wp2
                     exact bodyPost_end (results_none rfl _ _ _) rfl ⟨rfl, HE.out⟩)
          · first
              | (exfalso; have hq := HS.out.hD; omega)
              | (have c1 : (I : Int) < (m : Int) := by omega
                 have c2 : ¬ (m : Int) < (E : Int) := by omega
                 have c3 : (a : Int) < (I : Int) := by omega
                 have c4 : ¬ (I : Int) < (mid : Int) := by omega
                 have c5 : (mid : Int) < (E : Int) := by omega
                 have c6 : (E : Int) < (b : Int) := by omega
                 obtain rfl : V1 = [] := List.eq_nil_of_length_eq_zero (by omega)
                 have HNF := Lib.hid (show U1.length = i ∧ U2.length = n1 - i ∧ ([] : List MK).length = D - i ∧ V2.length = n2 - (D - i) ∧ A.length = a ∧ b - a ≤ d + 1 ∧ a + i = I ∧ m + (D - i) = E ∧ i ≤ D ∧ i ≤ n1 ∧ D - n2 ≤ i ∧ a + n1 = m ∧ m + n2 = b ∧ a + D = mid ∧ 2 ≤ n1 ∧ 2 ≤ n2 ∧ i < n1 ∧ D ≤ i from ⟨lU1, lU2, lV1, lV2, ka, kd, hI, hE, hjD, hj1, hlo, k3, k4, k5, k8, k9, p1, p2⟩)
                 have H1 := Lib.hid (show InP base w0 wx g L cap (A ++ (U1 ++ (([] : List MK) ++ (U2 ++ (V2 ++ B))))) from by have := HI0.out; simpa using this)
                 clear lU1 lU2 lV1 lV2 ka kd hI hE hij hjD hj1 hlo k1 k2 k3 k4 k5 k7 k8 k9 hlt p1 p2
                 have H2 := Lib.hid (show InP base w0 wx g L cap (A ++ ((U1 ++ ([] : List MK)) ++ (U2 ++ (V2 ++ B)))) ∧ St (U1 ++ ([] : List MK)) (U1 ++ ([] : List MK)) ∧ Srt (U1 ++ ([] : List MK)) from ⟨by have := H1.out; simpa using this, St.refl _, by rw [List.append_nil]; exact HSO.out.1⟩)
                 have HC3 := Lib.hid (HIH.out (A ++ (U1 ++ ([] : List MK))) U2 V2 B mid E b wx (by have := H2.out.1; simpa using this) (by have hh := HNF.out; have hl := H2.out.2.1.len; simp at hl ⊢; omega) (by have hh := HNF.out; omega) (by have hh := HNF.out; omega) (by have hh := HNF.out; omega) (by have hh := HNF.out; omega) (by have hh := HNF.out; omega) HSO.out.2.1 HSO.out.2.2.2)
                 go_wp2_with fail
                 refine HC3.out.mono ?_
                 rintro e w3 ⟨rfl, R', h2, h3, h4⟩
                 have HE := Lib.hid (show ∃ M', InP base w0 w3 g L cap (A ++ (M' ++ B)) ∧ St (M1 ++ M2) M' ∧ Srt M' from ⟨(U1 ++ ([] : List MK)) ++ R', by simpa using h2, HF.out _ _ H2.out.2.1 H2.out.2.2 h3 h4⟩)
                 clear h2 h3 h4 HC3
                 go_wp2
                 exact bodyPost_end (results_none rfl _ _ _) rfl ⟨rfl, HE.out⟩)
        · rcases Nat.lt_or_ge i D with p2 | p2
          · first
              | (exfalso; have hq := HS.out.hD; omega)
              | (have c1 : ¬ (I : Int) < (m : Int) := by omega
                 have c3 : (a : Int) < (I : Int) := by omega
                 have c4 : (I : Int) < (mid : Int) := by omega
                 have c5 : ¬ (mid : Int) < (E : Int) := by omega
                 obtain rfl : U2 = [] := List.eq_nil_of_length_eq_zero (by omega)
                 have HNF := Lib.hid (show U1.length = i ∧ ([] : List MK).length = n1 - i ∧ V1.length = D - i ∧ V2.length = n2 - (D - i) ∧ A.length = a ∧ b - a ≤ d + 1 ∧ a + i = I ∧ m + (D - i) = E ∧ i ≤ D ∧ i ≤ n1 ∧ D - n2 ≤ i ∧ a + n1 = m ∧ m + n2 = b ∧ a + D = mid ∧ 2 ≤ n1 ∧ 2 ≤ n2 ∧ n1 ≤ i ∧ i < D from ⟨lU1, lU2, lV1, lV2, ka, kd, hI, hE, hjD, hj1, hlo, k3, k4, k5, k8, k9, p1, p2⟩)
                 have H1 := Lib.hid (show InP base w0 wx g L cap (A ++ (U1 ++ (V1 ++ (([] : List MK) ++ (V2 ++ B))))) from by have := HI0.out; simpa using this)
                 clear lU1 lU2 lV1 lV2 ka kd hI hE hij hjD hj1 hlo k1 k2 k3 k4 k5 k7 k8 k9 hlt p1 p2
                 have HC2 := Lib.hid (HIH.out A U1 V1 (([] : List MK) ++ (V2 ++ B)) a I mid wx H1.out (by have hh := HNF.out; exact hh.2.2.2.2.1) (by have hh := HNF.out; omega) (by have hh := HNF.out; omega) (by have hh := HNF.out; omega) (by have hh := HNF.out; omega) (by have hh := HNF.out; omega) HSO.out.1 HSO.out.2.2.1)
                 go_wp2_with fail
                 refine HC2.out.mono ?_
                 rintro e w2 ⟨rfl, L', h2, h3, h4⟩
                 have H2 := Lib.hid (And.intro h2 (And.intro h3 h4))
                 clear h2 h3 h4 HC2
                 have HE := Lib.hid (show ∃ M', InP base w0 w2 g L cap (A ++ (M' ++ B)) ∧ St (M1 ++ M2) M' ∧ Srt M' from ⟨L' ++ (([] : List MK) ++ V2), by have := H2.out.1; simpa using this, HF.out _ _ H2.out.2.1 H2.out.2.2 (St.refl _) (by rw [List.nil_append]; exact HSO.out.2.2.2)⟩)
                 go_wp2
                 exact bodyPost_end (results_none rfl _ _ _) rfl ⟨rfl, HE.out⟩)
          · first
              | (exfalso; have hq := HS.out.hD; omega)
              | (have c1 : ¬ (I : Int) < (m : Int) := by omega
                 have c3 : (a : Int) < (I : Int) := by omega
                 have c4 : ¬ (I : Int) < (mid : Int) := by omega
                 have c5 : ¬ (mid : Int) < (E : Int) := by omega
                 obtain rfl : U2 = [] := List.eq_nil_of_length_eq_zero (by omega)
                 obtain rfl : V1 = [] := List.eq_nil_of_length_eq_zero (by omega)
                 have HNF := Lib.hid (show U1.length = i ∧ ([] : List MK).length = n1 - i ∧ ([] : List MK).length = D - i ∧ V2.length = n2 - (D - i) ∧ A.length = a ∧ b - a ≤ d + 1 ∧ a + i = I ∧ m + (D - i) = E ∧ i ≤ D ∧ i ≤ n1 ∧ D - n2 ≤ i ∧ a + n1 = m ∧ m + n2 = b ∧ a + D = mid ∧ 2 ≤ n1 ∧ 2 ≤ n2 ∧ n1 ≤ i ∧ D ≤ i from ⟨lU1, lU2, lV1, lV2, ka, kd, hI, hE, hjD, hj1, hlo, k3, k4, k5, k8, k9, p1, p2⟩)
                 have H1 := Lib.hid (show InP base w0 wx g L cap (A ++ (U1 ++ (([] : List MK) ++ (([] : List MK) ++ (V2 ++ B))))) from by have := HI0.out; simpa using this)
                 clear lU1 lU2 lV1 lV2 ka kd hI hE hij hjD hj1 hlo k1 k2 k3 k4 k5 k7 k8 k9 hlt p1 p2
                 have H2 := Lib.hid (show InP base w0 wx g L cap (A ++ ((U1 ++ ([] : List MK)) ++ (([] : List MK) ++ (V2 ++ B)))) ∧ St (U1 ++ ([] : List MK)) (U1 ++ ([] : List MK)) ∧ Srt (U1 ++ ([] : List MK)) from ⟨by have := H1.out; simpa using this, St.refl _, by rw [List.append_nil]; exact HSO.out.1⟩)
                 have HE := Lib.hid (show ∃ M', InP base w0 wx g L cap (A ++ (M' ++ B)) ∧ St (M1 ++ M2) M' ∧ Srt M' from ⟨(U1 ++ ([] : List MK)) ++ (([] : List MK) ++ V2), by have := H2.out.1; simpa using this, HF.out _ _ H2.out.2.1 H2.out.2.2 (St.refl _) (by rw [List.nil_append]; exact HSO.out.2.2.2)⟩)
                 go_wp2
                 exact bodyPost_end (results_none rfl _ _ _) rfl ⟨rfl, HE.out⟩)
  · have hbb : D ≤ n2 := by omega
    have HST := Lib.hid (show a + 0 = a ∧ a + n1 = m ∧ Cutd M1 M2 D 0 n1 from ⟨rfl, hm, ⟨by omega, Nat.zero_le _, by omega, by omega, fun k x y hk hk2 => by omega, fun k x y hk hk2 hx => by have := get_lt hx; omega⟩⟩)
    clear ha hm hb hn1 hn2 hmid hD h1 h2 hd hs1 hs2 hN hP hbL hbb
    unfold ordV
    go_enter Try.func61, Try.ntmps61
    go_wp2
    go_loopw [20, 21, 23] (fun iv jv cv wr => ∃ i j : Nat, iv = .int .i64 ((a + i : Nat) : Int) ∧ jv = .int .i64 ((a + j : Nat) : Int) ∧ Hid (On w wr ∧ Cutd M1 M2 D i j)) (fun iv jv _ _ => (intOf jv).toNat - (intOf iv).toNat)
    case atStart => exact ⟨0, n1, by rw [HST.out.1], by rw [HST.out.2.1], Lib.hid ⟨Below.refl _ _, HST.out.2.2⟩⟩
    case round =>
      obtain ⟨i, j, rfl, rfl, HR⟩ := hrel
      obtain ⟨wx, rfl⟩ : ∃ wx : World, wx = wr := ⟨_, rfl⟩
      obtain ⟨I, hI⟩ : ∃ I, a + i = I := ⟨_, rfl⟩
      obtain ⟨J, hJ⟩ : ∃ J, a + j = J := ⟨_, rfl⟩
      rw [hI, hJ]
      have hij := HR.out.2.ij
      have hjD := HR.out.2.hi1
      have hj1 := HR.out.2.hi2
      have hlo := HR.out.2.lo
      have k1 := HS.out.h1
      have k2 := HS.out.h2
      have k3 := HS.out.hm
      have k4 := HS.out.hb
      have k5 := HS.out.hmid
      have k7 := HNP.out
      rw [k1] at hj1; rw [k2] at hlo
      have hJL : J ≤ 100000 := by omega
      have hIL : I ≤ 100000 := by omega
      have HIJ := Lib.hid (And.intro hI hJ)
      by_cases hlt : I < J
      · have hltz : (I : Int) < (J : Int) := by omega
        obtain ⟨c, hc⟩ : ∃ c, (I + J) / 2 = c := ⟨_, rfl⟩
        obtain ⟨k, hk⟩ : ∃ k, a + k = c := ⟨c - a, by omega⟩
        obtain ⟨q, hq⟩ : ∃ q, m + (D - 1 - k) = q := ⟨_, rfl⟩
        have hcz : ((I : Int) + (J : Int)) / 2 = (c : Int) := by omega
        have hqz : (P : Int) - (c : Int) = (q : Int) := by omega
        have hcL : c < L := by have := HBL.out; omega
        have hqL : q < L := by have := HBL.out; omega
        obtain ⟨x, hx⟩ : ∃ x, M1[k]? = some x := ⟨_, List.getElem?_eq_getElem (by omega)⟩
        obtain ⟨y, hy⟩ : ∃ y, M2[D - 1 - k]? = some y := ⟨_, List.getElem?_eq_getElem (by omega)⟩
        have HT := Lib.hid (H.out.on HR.out.1)
        have HG := Lib.hid (show (A ++ (M1 ++ (M2 ++ B)))[c]? = some x ∧ (A ++ (M1 ++ (M2 ++ B)))[q]? = some y from ⟨by rw [← hk]; exact get_m1 HS.out.ha hx, by rw [← hq]; exact get_m2 HS.out.ha (by rw [k1]; exact k3) hy⟩)
        have HCE := Lib.hid (show ∀ W', On wx W' → (W'.cell? ⟨g, c * 3, none⟩ = some (.int .i64 x.p) ∧ W'.cell? ⟨g, c * 3 + 1, none⟩ = some (.int .u64 x.s) ∧ W'.cell? ⟨g, c * 3 + 2, none⟩ = some (.int .u64 x.o)) ∧ (W'.cell? ⟨g, q * 3, none⟩ = some (.int .i64 y.p) ∧ W'.cell? ⟨g, q * 3 + 1, none⟩ = some (.int .u64 y.s) ∧ W'.cell? ⟨g, q * 3 + 2, none⟩ = some (.int .u64 y.o)) from fun W' hb => ⟨HT.out.cells HG.out.1 W' hb, HT.out.cells HG.out.2 W' hb⟩)
        have HO := Lib.hid (show ∃ z : Int, (z < 0 ↔ y.p < x.p) ∧ ∀ W, Calls Try.prog 46 #[y.val, x.val] W fun e w' => e = .returned (.int .i64 z) ∧ Below W.heap.size W w' from ⟨cmpI y.p x.p, by unfold cmpI; split; omega; split <;> omega, fun W => order_any y x W⟩)
        obtain ⟨z, hz, hO1⟩ := HO.out
        have HO1 := Lib.hid hO1
        by_cases hyx : z < 0
        · have HNX := Lib.hid (show Cutd M1 M2 D i k from HR.out.2.down HS.out.s1 HS.out.s2 (by omega) (by omega) hx hy (hz.1 hyx))
          have HCM := Lib.hid (And.intro hk (show k < j ∧ i ≤ k by omega))
          clear hz hij hjD hj1 hlo k1 k2 k3 k4 k5 k7 hx hy hI hJ hc hk hq HO hO1 hlt
          go_wp2_with fail
          refine region_on (by kernel_rfl) (by kernel_rfl) wx (Below.refl _ _) ?_
          repeat (first
            | go_big_quiet_skip
            | (go_big_quiet_want; go_big_quiet_op; (first
              | go_big_quiet_on
              | (apply Exists.intro; refine ⟨fun _ hC => ?_, ?_⟩; with_reducible (first
                  | exact rfl
                  | exact calls_on hC (HO1.out _)
                  | (have hcell := HCE.out _ hC; simp only [hcell, Result.andThen]; (first | exact rfl | exact ⟨rfl, rfl⟩ | exact ⟨trivial, rfl⟩))); go_big_quiet_on))))
          refine wpQuiet_nil ?_
          intro wm hO
          clear HCE
          have HOK := Lib.hid hO
          clear hO
          go_wp2
          go_roundw
          case rel => exact ⟨i, k, by rw [HIJ.out.1], by rw [HCM.out.1], Lib.hid ⟨HR.out.1.trans (HOK.out.mono (Below.size HR.out.1)), HNX.out⟩⟩
          case measure => simp [intOf]; have := HIJ.out; have := HCM.out; omega
        · have HNX := Lib.hid (show Cutd M1 M2 D (k + 1) j from HR.out.2.up HS.out.s1 HS.out.s2 (by omega) (by omega) hx hy (by have := fun h => hyx (hz.2 h); omega))
          have HCM := Lib.hid (And.intro hk (show k < j ∧ i ≤ k by omega))
          have HY3 := Lib.hid (show (!decide (z < 0)) = true from by rw [decide_eq_false hyx]; rfl)
          clear hz hij hjD hj1 hlo k1 k2 k3 k4 k5 k7 hx hy hI hJ hc hk hq HO hO1 hlt
          go_wp2_with fail
          refine region_on (by kernel_rfl) (by kernel_rfl) wx (Below.refl _ _) ?_
          repeat (first
            | go_big_quiet_skip
            | (go_big_quiet_want; go_big_quiet_op; (first
              | go_big_quiet_on
              | (apply Exists.intro; refine ⟨fun _ hC => ?_, ?_⟩; with_reducible (first
                  | exact rfl
                  | exact calls_on hC (HO1.out _)
                  | (have hcell := HCE.out _ hC; simp only [hcell, Result.andThen]; (first | exact rfl | exact ⟨rfl, rfl⟩ | exact ⟨trivial, rfl⟩))); go_big_quiet_on))))
          refine wpQuiet_nil ?_
          intro wm hO
          clear HCE
          rw [HY3.out]
          have HOK := Lib.hid hO
          clear hO
          go_wp2
          go_roundw
          case rel => exact ⟨k + 1, j, by have := HCM.out.1; subst this; go_num, by rw [HIJ.out.2], Lib.hid ⟨HR.out.1.trans (HOK.out.mono (Below.size HR.out.1)), HNX.out⟩⟩
          case measure => simp [intOf]; have := HIJ.out; have := HCM.out; omega
      · have hltz : ¬ (I : Int) < (J : Int) := by omega
        obtain rfl : i = j := by omega
        clear hJ HIJ
        obtain ⟨E, hE⟩ : ∃ E, m + (D - i) = E := ⟨_, rfl⟩
        have hEz : (N : Int) - (I : Int) = (E : Int) := by omega
        obtain ⟨U1, hU1⟩ : ∃ U, M1.take i = U := ⟨_, rfl⟩
        obtain ⟨U2, hU2⟩ : ∃ U, M1.drop i = U := ⟨_, rfl⟩
        obtain ⟨V1, hV1⟩ : ∃ U, M2.take (D - i) = U := ⟨_, rfl⟩
        obtain ⟨V2, hV2⟩ : ∃ U, M2.drop (D - i) = U := ⟨_, rfl⟩
        have lU1 : U1.length = i := by rw [← hU1, List.length_take]; omega
        have lU2 : U2.length = n1 - i := by rw [← hU2, List.length_drop]; omega
        have lV1 : V1.length = D - i := by rw [← hV1, List.length_take]; omega
        have lV2 : V2.length = n2 - (D - i) := by rw [← hV2, List.length_drop]; omega
        have HSO := Lib.hid (show Srt U1 ∧ Srt U2 ∧ Srt V1 ∧ Srt V2 from ⟨hU1 ▸ srt_take HS.out.s1 _, hU2 ▸ srt_drop HS.out.s1 _, hV1 ▸ srt_take HS.out.s2 _, hV2 ▸ srt_drop HS.out.s2 _⟩)
        have HF := Lib.hid (show ∀ L' R', St (U1 ++ V1) L' → Srt L' → St (U2 ++ V2) R' → Srt R' → St (M1 ++ M2) (L' ++ R') ∧ Srt (L' ++ R') from fun L' R' a1 a2 a3 a4 => by
          refine HR.out.2.fin HS.out.s1 HS.out.s2 ?_ a2 ?_ a4
          · rw [hU1, hV1]; exact a1
          · rw [hU2, hV2]; exact a3)
        have HI0 := Lib.hid (show InP base w0 wx g L cap (A ++ (U1 ++ (U2 ++ (V1 ++ (V2 ++ B))))) from by
          have := H.out.on HR.out.1
          rw [← List.take_append_drop i M1, ← List.take_append_drop (D - i) M2, hU1, hU2, hV1, hV2] at this
          simpa using this)
        have hEL : E ≤ 100000 := by have := HBL.out; omega
        have k8 := HS.out.two1
        have k9 := HS.out.two2
        have ka := HS.out.ha
        have kd := HS.out.hd
        clear hU1 hU2 hV1 hV2
        rcases Nat.lt_or_ge i n1 with p1 | p1
        · rcases Nat.lt_or_ge i D with p2 | p2
          · rcases Nat.lt_or_ge 0 i with p3 | p3
            · rcases Nat.lt_or_ge (D - i) n2 with p4 | p4
              · first
                  | (exfalso; have hq := HS.out.hD; omega)
                  | (have c1 : (I : Int) < (m : Int) := by omega
                     have c2 : (m : Int) < (E : Int) := by omega
                     have c3 : (a : Int) < (I : Int) := by omega
                     have c4 : (I : Int) < (mid : Int) := by omega
                     have c5 : (mid : Int) < (E : Int) := by omega
                     have c6 : (E : Int) < (b : Int) := by omega
                     have HNF := Lib.hid (show U1.length = i ∧ U2.length = n1 - i ∧ V1.length = D - i ∧ V2.length = n2 - (D - i) ∧ A.length = a ∧ b - a ≤ d + 1 ∧ a + i = I ∧ m + (D - i) = E ∧ i ≤ D ∧ i ≤ n1 ∧ D - n2 ≤ i ∧ a + n1 = m ∧ m + n2 = b ∧ a + D = mid ∧ 2 ≤ n1 ∧ 2 ≤ n2 ∧ i < n1 ∧ i < D ∧ 0 < i ∧ D - i < n2 from ⟨lU1, lU2, lV1, lV2, ka, kd, hI, hE, hjD, hj1, hlo, k3, k4, k5, k8, k9, p1, p2, p3, p4⟩)
                     have HC1 := Lib.hid (rot_any base w0 g L cap I m E (A ++ U1) U2 V1 (V2 ++ B) wx (by have := HI0.out; simpa using this) (by simp; omega) (by omega) (by omega) (by omega) (by omega) hL)
                     clear lU1 lU2 lV1 lV2 ka kd hI hE hij hjD hj1 hlo k1 k2 k3 k4 k5 k7 k8 k9 hlt p1 p2 p3 p4
                     go_wp2_with fail
                     refine HC1.out.mono ?_
                     rintro e w1 ⟨rfl, h1⟩
                     have H1 := Lib.hid (show InP base w0 w1 g L cap (A ++ (U1 ++ (V1 ++ (U2 ++ (V2 ++ B))))) from by simpa using h1)
                     clear h1 HC1
                     have HC2 := Lib.hid (HIH.out A U1 V1 (U2 ++ (V2 ++ B)) a I mid w1 H1.out (by have hh := HNF.out; exact hh.2.2.2.2.1) (by have hh := HNF.out; omega) (by have hh := HNF.out; omega) (by have hh := HNF.out; omega) (by have hh := HNF.out; omega) (by have hh := HNF.out; omega) HSO.out.1 HSO.out.2.2.1)
                     go_wp2_with fail
                     refine HC2.out.mono ?_
                     rintro e w2 ⟨rfl, L', h2, h3, h4⟩
                     have H2 := Lib.hid (And.intro h2 (And.intro h3 h4))
                     clear h2 h3 h4 HC2
                     have HC3 := Lib.hid (HIH.out (A ++ L') U2 V2 B mid E b w2 (by have := H2.out.1; simpa using this) (by have hh := HNF.out; have hl := H2.out.2.1.len; simp at hl ⊢; omega) (by have hh := HNF.out; omega) (by have hh := HNF.out; omega) (by have hh := HNF.out; omega) (by have hh := HNF.out; omega) (by have hh := HNF.out; omega) HSO.out.2.1 HSO.out.2.2.2)
                     go_wp2_with fail
                     refine HC3.out.mono ?_
                     rintro e w3 ⟨rfl, R', h2, h3, h4⟩
                     have HE := Lib.hid (show ∃ M', InP base w0 w3 g L cap (A ++ (M' ++ B)) ∧ St (M1 ++ M2) M' ∧ Srt M' from ⟨L' ++ R', by simpa using h2, HF.out _ _ H2.out.2.1 H2.out.2.2 h3 h4⟩)
                     clear h2 h3 h4 HC3
                     go_wp2
                     exact bodyPost_end (results_none rfl _ _ _) rfl ⟨rfl, HE.out⟩)
              · first
                  | (exfalso; have hq := HS.out.hD; omega)
                  | (have c1 : (I : Int) < (m : Int) := by omega
                     have c2 : (m : Int) < (E : Int) := by omega
                     have c3 : (a : Int) < (I : Int) := by omega
                     have c4 : (I : Int) < (mid : Int) := by omega
                     have c5 : (mid : Int) < (E : Int) := by omega
                     have c6 : ¬ (E : Int) < (b : Int) := by omega
                     have HNF := Lib.hid (show U1.length = i ∧ U2.length = n1 - i ∧ V1.length = D - i ∧ V2.length = n2 - (D - i) ∧ A.length = a ∧ b - a ≤ d + 1 ∧ a + i = I ∧ m + (D - i) = E ∧ i ≤ D ∧ i ≤ n1 ∧ D - n2 ≤ i ∧ a + n1 = m ∧ m + n2 = b ∧ a + D = mid ∧ 2 ≤ n1 ∧ 2 ≤ n2 ∧ i < n1 ∧ i < D ∧ 0 < i ∧ n2 ≤ D - i from ⟨lU1, lU2, lV1, lV2, ka, kd, hI, hE, hjD, hj1, hlo, k3, k4, k5, k8, k9, p1, p2, p3, p4⟩)
                     have HC1 := Lib.hid (rot_any base w0 g L cap I m E (A ++ U1) U2 V1 (V2 ++ B) wx (by have := HI0.out; simpa using this) (by simp; omega) (by omega) (by omega) (by omega) (by omega) hL)
                     clear lU1 lU2 lV1 lV2 ka kd hI hE hij hjD hj1 hlo k1 k2 k3 k4 k5 k7 k8 k9 hlt p1 p2 p3 p4
                     go_wp2_with fail
                     refine HC1.out.mono ?_
                     rintro e w1 ⟨rfl, h1⟩
                     have H1 := Lib.hid (show InP base w0 w1 g L cap (A ++ (U1 ++ (V1 ++ (U2 ++ (V2 ++ B))))) from by simpa using h1)
                     clear h1 HC1
                     have HC2 := Lib.hid (HIH.out A U1 V1 (U2 ++ (V2 ++ B)) a I mid w1 H1.out (by have hh := HNF.out; exact hh.2.2.2.2.1) (by have hh := HNF.out; omega) (by have hh := HNF.out; omega) (by have hh := HNF.out; omega) (by have hh := HNF.out; omega) (by have hh := HNF.out; omega) HSO.out.1 HSO.out.2.2.1)
                     go_wp2_with fail
                     refine HC2.out.mono ?_
                     rintro e w2 ⟨rfl, L', h2, h3, h4⟩
                     have H2 := Lib.hid (And.intro h2 (And.intro h3 h4))
                     clear h2 h3 h4 HC2
                     have HE := Lib.hid (show ∃ M', InP base w0 w2 g L cap (A ++ (M' ++ B)) ∧ St (M1 ++ M2) M' ∧ Srt M' from ⟨L' ++ (U2 ++ V2), by have := H2.out.1; simpa using this, HF.out _ _ H2.out.2.1 H2.out.2.2 (St.refl _) (by have hh := HNF.out; have : V2 = [] := List.eq_nil_of_length_eq_zero (by omega); rw [this, List.append_nil]; exact HSO.out.2.1)⟩)
                     go_wp2
                     exact bodyPost_end (results_none rfl _ _ _) rfl ⟨rfl, HE.out⟩)
            · rcases Nat.lt_or_ge (D - i) n2 with p4 | p4
              · first
                  | (exfalso; have hq := HS.out.hD; omega)
                  | (have c1 : (I : Int) < (m : Int) := by omega
                     have c2 : (m : Int) < (E : Int) := by omega
                     have c3 : ¬ (a : Int) < (I : Int) := by omega
                     have c4 : (I : Int) < (mid : Int) := by omega
                     have c5 : (mid : Int) < (E : Int) := by omega
                     have c6 : (E : Int) < (b : Int) := by omega
                     have HNF := Lib.hid (show U1.length = i ∧ U2.length = n1 - i ∧ V1.length = D - i ∧ V2.length = n2 - (D - i) ∧ A.length = a ∧ b - a ≤ d + 1 ∧ a + i = I ∧ m + (D - i) = E ∧ i ≤ D ∧ i ≤ n1 ∧ D - n2 ≤ i ∧ a + n1 = m ∧ m + n2 = b ∧ a + D = mid ∧ 2 ≤ n1 ∧ 2 ≤ n2 ∧ i < n1 ∧ i < D ∧ i ≤ 0 ∧ D - i < n2 from ⟨lU1, lU2, lV1, lV2, ka, kd, hI, hE, hjD, hj1, hlo, k3, k4, k5, k8, k9, p1, p2, p3, p4⟩)
                     have HC1 := Lib.hid (rot_any base w0 g L cap I m E (A ++ U1) U2 V1 (V2 ++ B) wx (by have := HI0.out; simpa using this) (by simp; omega) (by omega) (by omega) (by omega) (by omega) hL)
                     clear lU1 lU2 lV1 lV2 ka kd hI hE hij hjD hj1 hlo k1 k2 k3 k4 k5 k7 k8 k9 hlt p1 p2 p3 p4
                     go_wp2_with fail
                     refine HC1.out.mono ?_
                     rintro e w1 ⟨rfl, h1⟩
                     have H1 := Lib.hid (show InP base w0 w1 g L cap (A ++ (U1 ++ (V1 ++ (U2 ++ (V2 ++ B))))) from by simpa using h1)
                     clear h1 HC1
                     have H2 := Lib.hid (show InP base w0 w1 g L cap (A ++ ((U1 ++ V1) ++ (U2 ++ (V2 ++ B)))) ∧ St (U1 ++ V1) (U1 ++ V1) ∧ Srt (U1 ++ V1) from ⟨by have := H1.out; simpa using this, St.refl _, by have hh := HNF.out; have : U1 = [] := List.eq_nil_of_length_eq_zero (by omega); rw [this, List.nil_append]; exact HSO.out.2.2.1⟩)
                     have HC3 := Lib.hid (HIH.out (A ++ (U1 ++ V1)) U2 V2 B mid E b w1 (by have := H2.out.1; simpa using this) (by have hh := HNF.out; have hl := H2.out.2.1.len; simp at hl ⊢; omega) (by have hh := HNF.out; omega) (by have hh := HNF.out; omega) (by have hh := HNF.out; omega) (by have hh := HNF.out; omega) (by have hh := HNF.out; omega) HSO.out.2.1 HSO.out.2.2.2)
                     go_wp2_with fail
                     refine HC3.out.mono ?_
                     rintro e w3 ⟨rfl, R', h2, h3, h4⟩
                     have HE := Lib.hid (show ∃ M', InP base w0 w3 g L cap (A ++ (M' ++ B)) ∧ St (M1 ++ M2) M' ∧ Srt M' from ⟨(U1 ++ V1) ++ R', by simpa using h2, HF.out _ _ H2.out.2.1 H2.out.2.2 h3 h4⟩)
                     clear h2 h3 h4 HC3
                     go_wp2
                     exact bodyPost_end (results_none rfl _ _ _) rfl ⟨rfl, HE.out⟩)
              · first
                  | (exfalso; have hq := HS.out.hD; omega)
                  | (have c1 : (I : Int) < (m : Int) := by omega
                     have c2 : (m : Int) < (E : Int) := by omega
                     have c3 : ¬ (a : Int) < (I : Int) := by omega
                     have c4 : (I : Int) < (mid : Int) := by omega
                     have c5 : (mid : Int) < (E : Int) := by omega
                     have c6 : ¬ (E : Int) < (b : Int) := by omega
                     have HNF := Lib.hid (show U1.length = i ∧ U2.length = n1 - i ∧ V1.length = D - i ∧ V2.length = n2 - (D - i) ∧ A.length = a ∧ b - a ≤ d + 1 ∧ a + i = I ∧ m + (D - i) = E ∧ i ≤ D ∧ i ≤ n1 ∧ D - n2 ≤ i ∧ a + n1 = m ∧ m + n2 = b ∧ a + D = mid ∧ 2 ≤ n1 ∧ 2 ≤ n2 ∧ i < n1 ∧ i < D ∧ i ≤ 0 ∧ n2 ≤ D - i from ⟨lU1, lU2, lV1, lV2, ka, kd, hI, hE, hjD, hj1, hlo, k3, k4, k5, k8, k9, p1, p2, p3, p4⟩)
                     have HC1 := Lib.hid (rot_any base w0 g L cap I m E (A ++ U1) U2 V1 (V2 ++ B) wx (by have := HI0.out; simpa using this) (by simp; omega) (by omega) (by omega) (by omega) (by omega) hL)
                     clear lU1 lU2 lV1 lV2 ka kd hI hE hij hjD hj1 hlo k1 k2 k3 k4 k5 k7 k8 k9 hlt p1 p2 p3 p4
                     go_wp2_with fail
                     refine HC1.out.mono ?_
                     rintro e w1 ⟨rfl, h1⟩
                     have H1 := Lib.hid (show InP base w0 w1 g L cap (A ++ (U1 ++ (V1 ++ (U2 ++ (V2 ++ B))))) from by simpa using h1)
                     clear h1 HC1
                     have H2 := Lib.hid (show InP base w0 w1 g L cap (A ++ ((U1 ++ V1) ++ (U2 ++ (V2 ++ B)))) ∧ St (U1 ++ V1) (U1 ++ V1) ∧ Srt (U1 ++ V1) from ⟨by have := H1.out; simpa using this, St.refl _, by have hh := HNF.out; have : U1 = [] := List.eq_nil_of_length_eq_zero (by omega); rw [this, List.nil_append]; exact HSO.out.2.2.1⟩)
                     have HE := Lib.hid (show ∃ M', InP base w0 w1 g L cap (A ++ (M' ++ B)) ∧ St (M1 ++ M2) M' ∧ Srt M' from ⟨(U1 ++ V1) ++ (U2 ++ V2), by have := H2.out.1; simpa using this, HF.out _ _ H2.out.2.1 H2.out.2.2 (St.refl _) (by have hh := HNF.out; have : V2 = [] := List.eq_nil_of_length_eq_zero (by omega); rw [this, List.append_nil]; exact HSO.out.2.1)⟩)
                     go_wp2
                     exact bodyPost_end (results_none rfl _ _ _) rfl ⟨rfl, HE.out⟩)
          · first
              | (exfalso; have hq := HS.out.hD; omega)
              | (have c1 : (I : Int) < (m : Int) := by omega
                 have c2 : ¬ (m : Int) < (E : Int) := by omega
                 have c3 : (a : Int) < (I : Int) := by omega
                 have c4 : ¬ (I : Int) < (mid : Int) := by omega
                 have c5 : (mid : Int) < (E : Int) := by omega
                 have c6 : (E : Int) < (b : Int) := by omega
                 obtain rfl : V1 = [] := List.eq_nil_of_length_eq_zero (by omega)
                 have HNF := Lib.hid (show U1.length = i ∧ U2.length = n1 - i ∧ ([] : List MK).length = D - i ∧ V2.length = n2 - (D - i) ∧ A.length = a ∧ b - a ≤ d + 1 ∧ a + i = I ∧ m + (D - i) = E ∧ i ≤ D ∧ i ≤ n1 ∧ D - n2 ≤ i ∧ a + n1 = m ∧ m + n2 = b ∧ a + D = mid ∧ 2 ≤ n1 ∧ 2 ≤ n2 ∧ i < n1 ∧ D ≤ i from ⟨lU1, lU2, lV1, lV2, ka, kd, hI, hE, hjD, hj1, hlo, k3, k4, k5, k8, k9, p1, p2⟩)
                 have H1 := Lib.hid (show InP base w0 wx g L cap (A ++ (U1 ++ (([] : List MK) ++ (U2 ++ (V2 ++ B))))) from by have := HI0.out; simpa using this)
                 clear lU1 lU2 lV1 lV2 ka kd hI hE hij hjD hj1 hlo k1 k2 k3 k4 k5 k7 k8 k9 hlt p1 p2
                 have H2 := Lib.hid (show InP base w0 wx g L cap (A ++ ((U1 ++ ([] : List MK)) ++ (U2 ++ (V2 ++ B)))) ∧ St (U1 ++ ([] : List MK)) (U1 ++ ([] : List MK)) ∧ Srt (U1 ++ ([] : List MK)) from ⟨by have := H1.out; simpa using this, St.refl _, by rw [List.append_nil]; exact HSO.out.1⟩)
                 have HC3 := Lib.hid (HIH.out (A ++ (U1 ++ ([] : List MK))) U2 V2 B mid E b wx (by have := H2.out.1; simpa using this) (by have hh := HNF.out; have hl := H2.out.2.1.len; simp at hl ⊢; omega) (by have hh := HNF.out; omega) (by have hh := HNF.out; omega) (by have hh := HNF.out; omega) (by have hh := HNF.out; omega) (by have hh := HNF.out; omega) HSO.out.2.1 HSO.out.2.2.2)
                 go_wp2_with fail
                 refine HC3.out.mono ?_
                 rintro e w3 ⟨rfl, R', h2, h3, h4⟩
                 have HE := Lib.hid (show ∃ M', InP base w0 w3 g L cap (A ++ (M' ++ B)) ∧ St (M1 ++ M2) M' ∧ Srt M' from ⟨(U1 ++ ([] : List MK)) ++ R', by simpa using h2, HF.out _ _ H2.out.2.1 H2.out.2.2 h3 h4⟩)
                 clear h2 h3 h4 HC3
                 go_wp2
                 exact bodyPost_end (results_none rfl _ _ _) rfl ⟨rfl, HE.out⟩)
        · rcases Nat.lt_or_ge i D with p2 | p2
          · first
              | (exfalso; have hq := HS.out.hD; omega)
              | (have c1 : ¬ (I : Int) < (m : Int) := by omega
                 have c3 : (a : Int) < (I : Int) := by omega
                 have c4 : (I : Int) < (mid : Int) := by omega
                 have c5 : ¬ (mid : Int) < (E : Int) := by omega
                 obtain rfl : U2 = [] := List.eq_nil_of_length_eq_zero (by omega)
                 have HNF := Lib.hid (show U1.length = i ∧ ([] : List MK).length = n1 - i ∧ V1.length = D - i ∧ V2.length = n2 - (D - i) ∧ A.length = a ∧ b - a ≤ d + 1 ∧ a + i = I ∧ m + (D - i) = E ∧ i ≤ D ∧ i ≤ n1 ∧ D - n2 ≤ i ∧ a + n1 = m ∧ m + n2 = b ∧ a + D = mid ∧ 2 ≤ n1 ∧ 2 ≤ n2 ∧ n1 ≤ i ∧ i < D from ⟨lU1, lU2, lV1, lV2, ka, kd, hI, hE, hjD, hj1, hlo, k3, k4, k5, k8, k9, p1, p2⟩)
                 have H1 := Lib.hid (show InP base w0 wx g L cap (A ++ (U1 ++ (V1 ++ (([] : List MK) ++ (V2 ++ B))))) from by have := HI0.out; simpa using this)
                 clear lU1 lU2 lV1 lV2 ka kd hI hE hij hjD hj1 hlo k1 k2 k3 k4 k5 k7 k8 k9 hlt p1 p2
                 have HC2 := Lib.hid (HIH.out A U1 V1 (([] : List MK) ++ (V2 ++ B)) a I mid wx H1.out (by have hh := HNF.out; exact hh.2.2.2.2.1) (by have hh := HNF.out; omega) (by have hh := HNF.out; omega) (by have hh := HNF.out; omega) (by have hh := HNF.out; omega) (by have hh := HNF.out; omega) HSO.out.1 HSO.out.2.2.1)
                 go_wp2_with fail
                 refine HC2.out.mono ?_
                 rintro e w2 ⟨rfl, L', h2, h3, h4⟩
                 have H2 := Lib.hid (And.intro h2 (And.intro h3 h4))
                 clear h2 h3 h4 HC2
                 have HE := Lib.hid (show ∃ M', InP base w0 w2 g L cap (A ++ (M' ++ B)) ∧ St (M1 ++ M2) M' ∧ Srt M' from ⟨L' ++ (([] : List MK) ++ V2), by have := H2.out.1; simpa using this, HF.out _ _ H2.out.2.1 H2.out.2.2 (St.refl _) (by rw [List.nil_append]; exact HSO.out.2.2.2)⟩)
                 go_wp2
                 exact bodyPost_end (results_none rfl _ _ _) rfl ⟨rfl, HE.out⟩)
          · first
              | (exfalso; have hq := HS.out.hD; omega)
              | (have c1 : ¬ (I : Int) < (m : Int) := by omega
                 have c3 : (a : Int) < (I : Int) := by omega
                 have c4 : ¬ (I : Int) < (mid : Int) := by omega
                 have c5 : ¬ (mid : Int) < (E : Int) := by omega
                 obtain rfl : U2 = [] := List.eq_nil_of_length_eq_zero (by omega)
                 obtain rfl : V1 = [] := List.eq_nil_of_length_eq_zero (by omega)
                 have HNF := Lib.hid (show U1.length = i ∧ ([] : List MK).length = n1 - i ∧ ([] : List MK).length = D - i ∧ V2.length = n2 - (D - i) ∧ A.length = a ∧ b - a ≤ d + 1 ∧ a + i = I ∧ m + (D - i) = E ∧ i ≤ D ∧ i ≤ n1 ∧ D - n2 ≤ i ∧ a + n1 = m ∧ m + n2 = b ∧ a + D = mid ∧ 2 ≤ n1 ∧ 2 ≤ n2 ∧ n1 ≤ i ∧ D ≤ i from ⟨lU1, lU2, lV1, lV2, ka, kd, hI, hE, hjD, hj1, hlo, k3, k4, k5, k8, k9, p1, p2⟩)
                 have H1 := Lib.hid (show InP base w0 wx g L cap (A ++ (U1 ++ (([] : List MK) ++ (([] : List MK) ++ (V2 ++ B))))) from by have := HI0.out; simpa using this)
                 clear lU1 lU2 lV1 lV2 ka kd hI hE hij hjD hj1 hlo k1 k2 k3 k4 k5 k7 k8 k9 hlt p1 p2
                 have H2 := Lib.hid (show InP base w0 wx g L cap (A ++ ((U1 ++ ([] : List MK)) ++ (([] : List MK) ++ (V2 ++ B)))) ∧ St (U1 ++ ([] : List MK)) (U1 ++ ([] : List MK)) ∧ Srt (U1 ++ ([] : List MK)) from ⟨by have := H1.out; simpa using this, St.refl _, by rw [List.append_nil]; exact HSO.out.1⟩)
                 have HE := Lib.hid (show ∃ M', InP base w0 wx g L cap (A ++ (M' ++ B)) ∧ St (M1 ++ M2) M' ∧ Srt M' from ⟨(U1 ++ ([] : List MK)) ++ (([] : List MK) ++ V2), by have := H2.out.1; simpa using this, HF.out _ _ H2.out.2.1 H2.out.2.2 (St.refl _) (by rw [List.nil_append]; exact HSO.out.2.2.2)⟩)
                 go_wp2
                 exact bodyPost_end (results_none rfl _ _ _) rfl ⟨rfl, HE.out⟩)
end Go.Proofs.Ytclchlcfcnlmhaa
