/- symMerge: one before many, many before one. -/
import Derived.Test.YtclchlcfcnlmhaaFn
namespace Go.Proofs.Ytclchlcfcnlmhaa
open Go.RowKit Go.Maps Go.Shelf
set_option linter.unusedSimpArgs false
set_option linter.unusedVariables false
/-- a cell that is there -/
theorem InP.on {base : Nat} {w0 w wr : World} {g L cap : Nat} {T : List MK} (h : InP base w0 w g L cap T) (hb : On w wr) : InP base w0 wr g L cap T := h.below hb
theorem St.move (x : MK) : ∀ P Q : List MK, (∀ q ∈ P, q.p ≠ x.p) → St (x :: (P ++ Q)) (P ++ x :: Q)
  | [], Q, _ => St.refl _
  | y :: P, Q, h => by
    have h1 := St.move x P Q fun q hq => h q (by simp [hq])
    have h2 : St (x :: y :: (P ++ Q)) (y :: x :: (P ++ Q)) := St.swap (P := []) (h y (by simp))
    exact h2.trans (St.app (A := [y]) (A' := [y]) (St.refl _) h1)
theorem srt_in {x : MK} {P Q : List MK} (h : Srt (P ++ Q)) (hp : ∀ q ∈ P, q.p ≤ x.p) (hq : ∀ q ∈ Q, x.p ≤ q.p) : Srt (P ++ x :: Q) := by
  unfold Srt at h ⊢
  rw [List.pairwise_append] at h ⊢
  obtain ⟨h1, h2, h3⟩ := h
  refine ⟨h1, List.pairwise_cons.2 ⟨hq, h2⟩, fun z hz v hv => ?_⟩
  rcases List.mem_cons.1 hv with rfl | hv
  · exact hp z hz
  · exact h3 z hz v hv
theorem Srt.get {M : List MK} (h : Srt M) {i j : Nat} {x y : MK} (hx : M[i]? = some x) (hy : M[j]? = some y) (hij : i ≤ j) : x.p ≤ y.p := by
  rcases Nat.eq_or_lt_of_le hij with rfl | hlt
  · rw [hx] at hy; cases hy; exact Int.le_refl _
  · have a := List.getElem?_eq_some_iff.1 hx
    have b := List.getElem?_eq_some_iff.1 hy
    have := List.pairwise_iff_getElem.1 h i j a.1 b.1 hlt
    rwa [a.2, b.2] at this
set_option maxRecDepth 100000 in
set_option maxHeartbeats 4000000 in
theorem sym_one (base : Nat) (w0 : World) (g L cap a m b : Nat) (A : List MK) (x : MK) (M B : List MK) (w : World) (h : InP base w0 w g L cap (A ++ (x :: (M ++ B)))) (ha : A.length = a) (hm : a + 1 = m) (hb : m + M.length = b) (hs : Srt M) (hL : L ≤ 100000) :
    Calls Try.prog 61 #[.slice (some ⟨g, 0, none⟩) L cap, .int .i64 (a : Nat), .int .i64 (m : Nat), .int .i64 (b : Nat), ordV] w fun e w' => e = .returned (.tuple #[]) ∧ ∃ M', InP base w0 w' g L cap (A ++ (M' ++ B)) ∧ St (x :: M) M' ∧ Srt M' := by
  have H := Lib.hid h
  have HA := Lib.hid (And.intro ha (And.intro hm (And.intro hb hs)))
  have hbL : b ≤ L := by have := h.len; simp at this; omega
  have hab : m ≤ b := by omega
  have e1 : (m : Int) - (a : Int) = 1 := by omega
  have hen := enters_of (P := Try.prog) (f := 46) Try.func46 (by kernel_rfl) rfl
  obtain ⟨n, hn⟩ : ∃ n, M.length = n := ⟨_, rfl⟩
  have HN := Lib.hid hn
  have HMB := Lib.hid (show m + n = b by omega)
  clear h ha hm hb hs hn
  unfold ordV
  go_enter Try.func61, Try.ntmps61
  go_wp2
  go_loopw [10, 11, 12] (fun iv jv hv wr => ∃ i j : Nat, i ≤ j ∧ j ≤ n ∧ iv = .int .i64 ((m + i : Nat) : Int) ∧ jv = .int .i64 ((m + j : Nat) : Int) ∧ Hid (On w wr ∧ (∀ k q, k < i → M[k]? = some q → q.p < x.p) ∧ (∀ k q, j ≤ k → M[k]? = some q → x.p ≤ q.p))) (fun iv jv _ _ => (intOf jv).toNat - (intOf iv).toNat)
  case atStart => exact ⟨0, n, Nat.zero_le _, Nat.le_refl _, rfl, by rw [HMB.out], Lib.hid ⟨Below.refl _ _, fun k q hk => absurd hk (Nat.not_lt_zero _), fun k q hk hq => by have := List.getElem?_eq_some_iff.1 hq; have := this.1; rw [HN.out] at this; omega⟩⟩
  case round =>
    obtain ⟨i, j, hij, hjn, rfl, rfl, HR⟩ := hrel
    obtain ⟨wx, rfl⟩ : ∃ wx : World, wx = wr := ⟨_, rfl⟩
    obtain ⟨I, hI⟩ : ∃ I, m + i = I := ⟨_, rfl⟩
    obtain ⟨J, hJ⟩ : ∃ J, m + j = J := ⟨_, rfl⟩
    rw [hI, hJ]
    have HIJ := Lib.hid (And.intro hij (And.intro hjn (And.intro hI hJ)))
    have hJL : J ≤ 100000 := by have := HMB.out; omega
    have hIL : I ≤ 100000 := by omega
    by_cases hlt : I < J
    · have hltz : (I : Int) < (J : Int) := by omega
      obtain ⟨c, hc⟩ : ∃ c, (I + J) / 2 = c := ⟨_, rfl⟩
      obtain ⟨d, hd⟩ : ∃ d, m + d = c := ⟨c - m, by omega⟩
      have hcz : ((I : Int) + (J : Int)) / 2 = (c : Int) := by omega
      obtain ⟨y, hy⟩ : ∃ y, M[d]? = some y := ⟨_, List.getElem?_eq_getElem (by have := HN.out; omega)⟩
      have HT := Lib.hid (H.out.on HR.out.1)
      have HG := Lib.hid (show (A ++ (x :: (M ++ B)))[a]? = some x ∧ (A ++ (x :: (M ++ B)))[c]? = some y from by
        constructor
        · have := HA.out.1; rw [← this]; rw [List.getElem?_append_right (Nat.le_refl _), Nat.sub_self]; rfl
        · have := HA.out; rw [List.getElem?_append_right (by omega), show c - A.length = d + 1 by omega, List.getElem?_cons_succ, List.getElem?_append_left (by have := HN.out; omega), hy])
      have haL : a < L := by have := HA.out; omega
      have hcL : c < L := by have := HMB.out; omega
      have HCE := Lib.hid (show ∀ W', On wx W' → (W'.cell? ⟨g, a * 3, none⟩ = some (.int .i64 x.p) ∧ W'.cell? ⟨g, a * 3 + 1, none⟩ = some (.int .u64 x.s) ∧ W'.cell? ⟨g, a * 3 + 2, none⟩ = some (.int .u64 x.o)) ∧ (W'.cell? ⟨g, c * 3, none⟩ = some (.int .i64 y.p) ∧ W'.cell? ⟨g, c * 3 + 1, none⟩ = some (.int .u64 y.s) ∧ W'.cell? ⟨g, c * 3 + 2, none⟩ = some (.int .u64 y.o)) from fun W' hb => ⟨HT.out.cells HG.out.1 W' hb, HT.out.cells HG.out.2 W' hb⟩)
      have HCM := Lib.hid (And.intro hc (And.intro hd (And.intro hy hlt)))
      have HO := Lib.hid (show ∃ z : Int, (z < 0 ↔ y.p < x.p) ∧ ∀ W, Calls Try.prog 46 #[y.val, x.val] W fun e w' => e = .returned (.int .i64 z) ∧ Below W.heap.size W w' from ⟨cmpI y.p x.p, by unfold cmpI; split; omega; split <;> omega, fun W => order_any y x W⟩)
      obtain ⟨z, hz, hO1⟩ := HO.out
      have HO1 := Lib.hid hO1
      have HZ := Lib.hid hz
      clear hij hjn hI hJ hc hd hy HO hO1
      by_cases hyx : z < 0
      · have HLT := Lib.hid (hz.1 hyx)
        clear hz
        go_wp2_with fail
        refine region_on (by kernel_rfl) (by kernel_rfl) wx (Below.refl _ _) ?_
        repeat (first
          | go_big_quiet_skip
          | (go_big_quiet_want; go_big_quiet_op; (first
            | go_big_quiet_on
            | (apply Exists.intro; refine ⟨fun _ hC => ?_, ?_⟩; with_reducible (first
                | exact rfl
                | exact calls_on hC (HO1.out _)
                | (have hcell := HCE.out _ hC; simp only [hcell, Result.andThen]; (first | exact rfl | exact ⟨rfl, rfl⟩ | exact ⟨trivial, rfl⟩))); go_big_quiet_on))))
        refine wpQuiet_nil ?_
        intro wm hO
        clear HCE
        have HOK := Lib.hid hO
        clear hO
        go_wp2
        go_roundw
        case rel => exact ⟨d + 1, j, by have := HIJ.out; have := HCM.out; omega, HIJ.out.2.1, by have := HCM.out.2.1; subst this; go_num, by rw [HIJ.out.2.2.2], Lib.hid ⟨HR.out.1.trans (HOK.out.mono (Below.size HR.out.1)), fun k q hk hq => Int.lt_of_le_of_lt (HA.out.2.2.2.get hq HCM.out.2.2.1 (by omega)) HLT.out, HR.out.2.2⟩⟩
        case measure => simp [intOf]; have := HCM.out; omega
      · have HLT := Lib.hid (show x.p ≤ y.p from by have := fun h => hyx (hz.2 h); omega)
        clear hz
        go_wp2_with fail
        refine region_on (by kernel_rfl) (by kernel_rfl) wx (Below.refl _ _) ?_
        repeat (first
          | go_big_quiet_skip
          | (go_big_quiet_want; go_big_quiet_op; (first
            | go_big_quiet_on
            | (apply Exists.intro; refine ⟨fun _ hC => ?_, ?_⟩; with_reducible (first
                | exact rfl
                | exact calls_on hC (HO1.out _)
                | (have hcell := HCE.out _ hC; simp only [hcell, Result.andThen]; (first | exact rfl | exact ⟨rfl, rfl⟩ | exact ⟨trivial, rfl⟩))); go_big_quiet_on))))
        refine wpQuiet_nil ?_
        intro wm hO
        clear HCE
        have HOK := Lib.hid hO
        clear hO
        go_wp2
        go_roundw
        case rel => exact ⟨i, d, by have := HIJ.out; have := HCM.out; omega, by have := HIJ.out; have := HCM.out; omega, by rw [HIJ.out.2.2.1], by rw [HCM.out.2.1], Lib.hid ⟨HR.out.1.trans (HOK.out.mono (Below.size HR.out.1)), HR.out.2.1, fun k q hk hq => Int.le_trans HLT.out (HA.out.2.2.2.get HCM.out.2.2.1 hq hk)⟩⟩
        case measure => simp [intOf]; have := HCM.out; omega
    · have hltz : ¬ (I : Int) < (J : Int) := by omega
      obtain rfl : i = j := by omega
      have HT := Lib.hid (H.out.on HR.out.1)
      have HS := Lib.hid (And.intro HR.out.2.1 HR.out.2.2)
      have HII := Lib.hid (show a + i + 1 = I by have := HA.out.2.1; omega)
      have HIN := Lib.hid hjn
      clear hij hjn hI hJ hlt HIJ HR
      go_wp2
      go_loopw [13] (fun kv wr => ∃ n : Nat, n ≤ i ∧ kv = .int .i64 ((a + n : Nat) : Int) ∧ Hid (InP base w0 wr g L cap (A ++ (M.take n ++ x :: (M.drop n ++ B))))) (fun kv _ => a + i - (intOf kv).toNat)
      case atStart => exact ⟨0, Nat.zero_le _, rfl, HT.out⟩
      case round =>
        obtain ⟨n', hn', rfl, HJ⟩ := hrel
        obtain ⟨wy, rfl⟩ : ∃ wy : World, wy = wr := ⟨_, rfl⟩
        obtain ⟨K, hK⟩ : ∃ K, a + n' = K := ⟨_, rfl⟩
        rw [hK]
        have hIz : (I : Int) - 1 = ((a + i : Nat) : Int) := by have := HII.out; omega
        by_cases hlt : n' < i
        · have hltz : (K : Int) < ((a + i : Nat) : Int) := by omega
          obtain ⟨y, hy⟩ : ∃ y, M[n']? = some y := ⟨_, List.getElem?_eq_getElem (by have := HN.out; have := HIN.out; omega)⟩
          have hT := HJ.out
          rw [show A ++ (M.take n' ++ x :: (M.drop n' ++ B)) = (A ++ M.take n') ++ x :: y :: (M.drop (n' + 1) ++ B) by rw [drop_cons hy]; simp] at hT
          have hU : (A ++ M.take n').length = K := by have := HA.out; have := HN.out; have := HIN.out; simp; omega
          have hm2 := two_mid hT hU
          obtain ⟨c0, c1, c2⟩ := hT.cells hm2.1 wy (Below.refl _ _)
          obtain ⟨c3, c4, c5⟩ := hT.cells hm2.2.1 wy (Below.refl _ _)
          have hKL := hm2.2.2
          have hKL2 : K < L := by omega
          obtain ⟨-, -, -, z0, z1, z2⟩ := hT.fz hKL2
          obtain ⟨-, -, -, z3, z4, z5⟩ := hT.fz hKL
          have hkz : (K : Int) + 1 < (L : Int) := by omega
          have HNX := Lib.hid (show InP base w0 (put3 (put3 wy g (K * 3) y) g ((K + 1) * 3) x).drew g L cap (A ++ (M.take (n' + 1) ++ x :: (M.drop (n' + 1) ++ B))) from by
            have := hT.swa (V := []) hU rfl
            rw [take_snoc hy]
            simpa using this)
          have HLT := Lib.hid (And.intro hlt hK)
          clear hT hm2 hU hy hlt hK HJ hn'
          go_wp2_with fail
          go_region
          go_wp2
          go_roundw
          case rel => exact ⟨n' + 1, HLT.out.1, by have := HLT.out.2; subst this; go_num, HNX.out⟩
          case measure => simp [intOf]; have := HLT.out; omega
        · obtain rfl : n' = i := by omega
          have hltz : ¬ (K : Int) < ((a + n' : Nat) : Int) := by omega
          have HE := Lib.hid (show ∃ M', InP base w0 wy g L cap (A ++ (M' ++ B)) ∧ St (x :: M) M' ∧ Srt M' from by
            refine ⟨M.take n' ++ x :: M.drop n', by have := HJ.out; simpa using this, ?_, ?_⟩
            · have := St.move x (M.take n') (M.drop n') fun q hq => by
                obtain ⟨k, hk⟩ := List.getElem?_of_mem hq
                rw [List.getElem?_take] at hk
                split at hk
                · have := HS.out.1 k q (by assumption) hk; omega
                · cases hk
              rwa [List.take_append_drop] at this
            · refine srt_in (by rw [List.take_append_drop]; exact HA.out.2.2.2) (fun q hq => ?_) (fun q hq => ?_)
              · obtain ⟨k, hk⟩ := List.getElem?_of_mem hq
                rw [List.getElem?_take] at hk
                split at hk
                · exact Int.le_of_lt (HS.out.1 k q (by assumption) hk)
                · cases hk
              · obtain ⟨k, hk⟩ := List.getElem?_of_mem hq
                rw [List.getElem?_drop] at hk
                exact HS.out.2 _ q (by omega) hk)
          go_wp2
          refine bodyPost_ret (results_none rfl _ _ _) rfl ?_
          exact ⟨rfl, HE.out⟩
end Go.Proofs.Ytclchlcfcnlmhaa
