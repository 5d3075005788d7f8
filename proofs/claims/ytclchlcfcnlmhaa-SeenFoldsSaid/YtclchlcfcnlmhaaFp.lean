/- symMerge: many before one. -/
import Derived.Test.YtclchlcfcnlmhaaFo
namespace Go.Proofs.Ytclchlcfcnlmhaa
open Go.RowKit Go.Maps Go.Shelf
set_option linter.unusedSimpArgs false
set_option linter.unusedVariables false
theorem St.symm {A B : List MK} (h : St A B) : St B A := ⟨h.len.symm, fun p => (h.same p).symm⟩
theorem St.back (x : MK) (P Q : List MK) (h : ∀ q ∈ Q, q.p ≠ x.p) : St ((P ++ Q) ++ [x]) (P ++ x :: Q) := by
  have := St.move x Q [] h
  rw [List.append_nil] at this
  have h2 := St.app (St.refl P) this.symm
  rwa [← List.append_assoc] at h2
set_option maxRecDepth 100000 in
set_option maxHeartbeats 4000000 in
theorem sym_last (base : Nat) (w0 : World) (g L cap a m b : Nat) (A : List MK) (x : MK) (M B : List MK) (w : World) (h : InP base w0 w g L cap (A ++ (M ++ x :: B))) (ha : A.length = a) (hm : a + M.length = m) (hb : m + 1 = b) (hne : M.length ≠ 1) (hs : Srt M) (hL : L ≤ 100000) :
    Calls Try.prog 61 #[.slice (some ⟨g, 0, none⟩) L cap, .int .i64 (a : Nat), .int .i64 (m : Nat), .int .i64 (b : Nat), ordV] w fun e w' => e = .returned (.tuple #[]) ∧ ∃ M', InP base w0 w' g L cap (A ++ (M' ++ B)) ∧ St (M ++ [x]) M' ∧ Srt M' := by
  have H := Lib.hid h
  obtain ⟨n, hn⟩ : ∃ n, M.length = n := ⟨_, rfl⟩
  rw [hn] at hm hne
  have HA := Lib.hid (And.intro ha (And.intro hm (And.intro hb hs)))
  have hmL : m < L := by have := h.len; simp at this; omega
  have hab : a ≤ m := by omega
  have e1 : (m : Int) - (a : Int) = (n : Int) := by omega
  have e2 : (b : Int) - (m : Int) = 1 := by omega
  have e3 : ((n : Int) == 1) = false := beq_eq_false_iff_ne.2 (by omega)
  have hen := enters_of (P := Try.prog) (f := 46) Try.func46 (by kernel_rfl) rfl
  have HN := Lib.hid hn
  clear h ha hm hb hs hn hne
  unfold ordV
  go_enter Try.func61, Try.ntmps61
  go_wp2
  go_loopw [14, 15, 16] (fun iv jv hv wr => ∃ i j : Nat, i ≤ j ∧ j ≤ n ∧ iv = .int .i64 ((a + i : Nat) : Int) ∧ jv = .int .i64 ((a + j : Nat) : Int) ∧ Hid (On w wr ∧ (∀ k q, k < i → M[k]? = some q → q.p ≤ x.p) ∧ (∀ k q, j ≤ k → M[k]? = some q → x.p < q.p))) (fun iv jv _ _ => (intOf jv).toNat - (intOf iv).toNat)
  case atStart => exact ⟨0, n, Nat.zero_le _, Nat.le_refl _, rfl, by rw [HA.out.2.1], Lib.hid ⟨Below.refl _ _, fun k q hk => absurd hk (Nat.not_lt_zero _), fun k q hk hq => by have := List.getElem?_eq_some_iff.1 hq; have := this.1; rw [HN.out] at this; omega⟩⟩
  case round =>
    obtain ⟨i, j, hij, hjn, rfl, rfl, HR⟩ := hrel
    obtain ⟨wx, rfl⟩ : ∃ wx : World, wx = wr := ⟨_, rfl⟩
    obtain ⟨I, hI⟩ : ∃ I, a + i = I := ⟨_, rfl⟩
    obtain ⟨J, hJ⟩ : ∃ J, a + j = J := ⟨_, rfl⟩
    rw [hI, hJ]
    have HIJ := Lib.hid (And.intro hij (And.intro hjn (And.intro hI hJ)))
    have hJL : J ≤ 100000 := by have := HA.out.2.1; omega
    have hIL : I ≤ 100000 := by omega
    by_cases hlt : I < J
    · have hltz : (I : Int) < (J : Int) := by omega
      obtain ⟨c, hc⟩ : ∃ c, (I + J) / 2 = c := ⟨_, rfl⟩
      obtain ⟨d, hd⟩ : ∃ d, a + d = c := ⟨c - a, by omega⟩
      have hcz : ((I : Int) + (J : Int)) / 2 = (c : Int) := by omega
      obtain ⟨y, hy⟩ : ∃ y, M[d]? = some y := ⟨_, List.getElem?_eq_getElem (by have := HN.out; omega)⟩
      have HT := Lib.hid (H.out.on HR.out.1)
      have HG := Lib.hid (show (A ++ (M ++ x :: B))[m]? = some x ∧ (A ++ (M ++ x :: B))[c]? = some y from by
        constructor
        · have := HA.out; have := HN.out; rw [List.getElem?_append_right (by omega), List.getElem?_append_right (by omega), show m - A.length - M.length = 0 by omega]; rfl
        · have := HA.out; have := HN.out; rw [List.getElem?_append_right (by omega), show c - A.length = d by omega, List.getElem?_append_left (by omega), hy])
      have hcL : c < L := by have := HA.out; omega
      have HCE := Lib.hid (show ∀ W', On wx W' → (W'.cell? ⟨g, m * 3, none⟩ = some (.int .i64 x.p) ∧ W'.cell? ⟨g, m * 3 + 1, none⟩ = some (.int .u64 x.s) ∧ W'.cell? ⟨g, m * 3 + 2, none⟩ = some (.int .u64 x.o)) ∧ (W'.cell? ⟨g, c * 3, none⟩ = some (.int .i64 y.p) ∧ W'.cell? ⟨g, c * 3 + 1, none⟩ = some (.int .u64 y.s) ∧ W'.cell? ⟨g, c * 3 + 2, none⟩ = some (.int .u64 y.o)) from fun W' hb => ⟨HT.out.cells HG.out.1 W' hb, HT.out.cells HG.out.2 W' hb⟩)
      have HCM := Lib.hid (And.intro hc (And.intro hd (And.intro hy hlt)))
      have HO := Lib.hid (show ∃ z : Int, (z < 0 ↔ x.p < y.p) ∧ ∀ W, Calls Try.prog 46 #[x.val, y.val] W fun e w' => e = .returned (.int .i64 z) ∧ Below W.heap.size W w' from ⟨cmpI x.p y.p, by unfold cmpI; split; omega; split <;> omega, fun W => order_any x y W⟩)
      obtain ⟨z, hz, hO1⟩ := HO.out
      have HO1 := Lib.hid hO1
      have HZ := Lib.hid hz
      clear hij hjn hI hJ hc hd hy HO hO1
      by_cases hyx : z < 0
      · have HLT := Lib.hid (hz.1 hyx)
        clear hz
        go_wp2_with fail
        refine region_on (by kernel_rfl) (by kernel_rfl) wx (Below.refl _ _) ?_
        repeat (first
          | go_big_quiet_skip
          | (go_big_quiet_want; go_big_quiet_op; (first
            | go_big_quiet_on
            | (apply Exists.intro; refine ⟨fun _ hC => ?_, ?_⟩; with_reducible (first
                | exact rfl
                | exact calls_on hC (HO1.out _)
                | (have hcell := HCE.out _ hC; simp only [hcell, Result.andThen]; (first | exact rfl | exact ⟨rfl, rfl⟩ | exact ⟨trivial, rfl⟩))); go_big_quiet_on))))
        refine wpQuiet_nil ?_
        intro wm hO
        clear HCE
        have HOK := Lib.hid hO
        clear hO
        go_wp2
        go_roundw
        case rel => exact ⟨i, d, by have := HIJ.out; have := HCM.out; omega, by have := HIJ.out; have := HCM.out; omega, by rw [HIJ.out.2.2.1], by rw [HCM.out.2.1], Lib.hid ⟨HR.out.1.trans (HOK.out.mono (Below.size HR.out.1)), HR.out.2.1, fun k q hk hq => Int.lt_of_lt_of_le HLT.out (HA.out.2.2.2.get HCM.out.2.2.1 hq hk)⟩⟩
        case measure => simp [intOf]; have := HCM.out; omega
      · have HLT := Lib.hid (show y.p ≤ x.p from by have := fun h => hyx (hz.2 h); omega)
        have HY3 := Lib.hid (show (!decide (z < 0)) = true from by rw [decide_eq_false hyx]; rfl)
        clear hz
        go_wp2_with fail
        refine region_on (by kernel_rfl) (by kernel_rfl) wx (Below.refl _ _) ?_
        repeat (first
          | go_big_quiet_skip
          | (go_big_quiet_want; go_big_quiet_op; (first
            | go_big_quiet_on
            | (apply Exists.intro; refine ⟨fun _ hC => ?_, ?_⟩; with_reducible (first
                | exact rfl
                | exact calls_on hC (HO1.out _)
                | (have hcell := HCE.out _ hC; simp only [hcell, Result.andThen]; (first | exact rfl | exact ⟨rfl, rfl⟩ | exact ⟨trivial, rfl⟩))); go_big_quiet_on))))
        refine wpQuiet_nil ?_
        intro wm hO
        clear HCE
        rw [HY3.out]
        have HOK := Lib.hid hO
        clear hO
        go_wp2
        go_roundw
        case rel => exact ⟨d + 1, j, by have := HIJ.out; have := HCM.out; omega, HIJ.out.2.1, by have := HCM.out.2.1; subst this; go_num, by rw [HIJ.out.2.2.2], Lib.hid ⟨HR.out.1.trans (HOK.out.mono (Below.size HR.out.1)), fun k q hk hq => Int.le_trans (HA.out.2.2.2.get hq HCM.out.2.2.1 (by omega)) HLT.out, HR.out.2.2⟩⟩
        case measure => simp [intOf]; have := HCM.out; omega
    · have hltz : ¬ (I : Int) < (J : Int) := by omega
      obtain rfl : i = j := by omega
      have HT := Lib.hid (H.out.on HR.out.1)
      have HS := Lib.hid (And.intro HR.out.2.1 HR.out.2.2)
      have HIN := Lib.hid (And.intro hjn hI)
      clear hij hjn hI hJ hlt HIJ HR
      go_wp2
      go_loopw [17] (fun kv wr => ∃ n' : Nat, i ≤ n' ∧ n' ≤ n ∧ kv = .int .i64 ((a + n' : Nat) : Int) ∧ Hid (InP base w0 wr g L cap (A ++ (M.take n' ++ x :: (M.drop n' ++ B))))) (fun kv _ => (intOf kv).toNat)
      case atStart => exact ⟨n, HIN.out.1, Nat.le_refl _, by rw [HA.out.2.1], by have := HT.out; have h1 := HN.out; rw [List.take_of_length_le (by omega), List.drop_of_length_le (by omega), List.nil_append]; exact Lib.hid this⟩
      case round =>
        obtain ⟨n', hin, hn', rfl, HJ⟩ := hrel
        obtain ⟨wy, rfl⟩ : ∃ wy : World, wy = wr := ⟨_, rfl⟩
        by_cases hlt : i < n'
        · obtain ⟨t, rfl⟩ : ∃ t, n' = t + 1 := ⟨n' - 1, by omega⟩
          obtain ⟨K, hK⟩ : ∃ K, a + t = K := ⟨_, rfl⟩
          rw [show a + (t + 1) = K + 1 by omega]
          have hltz : (I : Int) < (K : Int) + 1 := by have := HIN.out.2; omega
          obtain ⟨y, hy⟩ : ∃ y, M[t]? = some y := ⟨_, List.getElem?_eq_getElem (by have := HN.out; omega)⟩
          have hT := HJ.out
          rw [show A ++ (M.take (t + 1) ++ x :: (M.drop (t + 1) ++ B)) = (A ++ M.take t) ++ y :: x :: (M.drop (t + 1) ++ B) by rw [take_snoc hy]; simp] at hT
          have hU : (A ++ M.take t).length = K := by have := HA.out; have := HN.out; simp; omega
          have hm2 := two_mid hT hU
          obtain ⟨c0, c1, c2⟩ := hT.cells hm2.1 wy (Below.refl _ _)
          obtain ⟨c3, c4, c5⟩ := hT.cells hm2.2.1 wy (Below.refl _ _)
          have hKL := hm2.2.2
          have hKL2 : K < L := by omega
          obtain ⟨-, -, -, z0, z1, z2⟩ := hT.fz hKL2
          obtain ⟨-, -, -, z3, z4, z5⟩ := hT.fz hKL
          have hkz : (K : Int) + 1 < (L : Int) := by omega
          have HNX := Lib.hid (show InP base w0 (put3 (put3 wy g ((K + 1) * 3) y) g (K * 3) x).drew g L cap (A ++ (M.take t ++ x :: (M.drop t ++ B))) from by
            have := hT.swb (V := []) hU rfl
            rw [drop_cons hy]
            simpa using this)
          have HLT := Lib.hid (And.intro hlt (And.intro hK hn'))
          clear hT hm2 hU hy hlt hK HJ hn' hin
          go_wp2_with fail
          go_region
          go_wp2
          go_roundw
          case rel => exact ⟨t, by have := HLT.out; omega, by have := HLT.out; omega, by rw [HLT.out.2.1], HNX.out⟩
          case measure => simp [intOf]
        · obtain rfl : n' = i := by omega
          have hltz : ¬ (I : Int) < ((a + n' : Nat) : Int) := by have := HIN.out.2; omega
          have HE := Lib.hid (show ∃ M', InP base w0 wy g L cap (A ++ (M' ++ B)) ∧ St (M ++ [x]) M' ∧ Srt M' from by
            have hlo : ∀ q ∈ M.take n', q.p ≤ x.p := fun q hq => by
              obtain ⟨k, hk⟩ := List.getElem?_of_mem hq
              rw [List.getElem?_take] at hk
              split at hk
              · exact HS.out.1 k q (by assumption) hk
              · cases hk
            have hhi : ∀ q ∈ M.drop n', x.p < q.p := fun q hq => by
              obtain ⟨k, hk⟩ := List.getElem?_of_mem hq
              rw [List.getElem?_drop] at hk
              exact HS.out.2 _ q (by omega) hk
            refine ⟨M.take n' ++ x :: M.drop n', by have := HJ.out; simpa using this, ?_, ?_⟩
            · have := St.back x (M.take n') (M.drop n') fun q hq e => by have := hhi q hq; omega
              rwa [List.take_append_drop] at this
            · exact srt_in (by rw [List.take_append_drop]; exact HA.out.2.2.2) hlo fun q hq => Int.le_of_lt (hhi q hq))
          go_wp2
          refine bodyPost_ret (results_none rfl _ _ _) rfl ?_
          exact ⟨rfl, HE.out⟩
end Go.Proofs.Ytclchlcfcnlmhaa
