/- The document's Covered; LongFrags, long. -/
import Derived.Test.YtnfjhpdpeihheaaRefSet
namespace Go.Proofs.Ytnfjhpdpeihheaa
open Go.RowKit Go.Maps Go.Shelf
theorem setL_of {row : List PL} {n : Int} {k : Nat} (hb : hasB row n = true) (hk : k < row.length) : setL 1 row n ((k : Int) + 1) = rot row k n.toNat := by
  unfold setL
  rw [if_pos ⟨by omega, hb⟩, show (((k : Int) + 1 - 1) % (row.length : Int)) = (k : Int) by rw [Int.add_sub_cancel]; exact Int.emod_eq_of_lt (by omega) (by omega), Int.toNat_natCast]
set_option maxRecDepth 100000 in
set_option maxHeartbeats 2000000 in
theorem rcovered_any (f n x : Int) (a : Option Addr) (c : Nat) (u : Value) (row m : List PL) (w : World) (hp : PsAt w (.slice a row.length c) row) (hq : PsAt w u m) (hl : row.length ≤ 100000) (hm : m.length ≤ 100000) (hn : -1000000 ≤ n ∧ n ≤ 1000000) (hx : -1000000 ≤ x ∧ x ≤ 1000000) :
    Calls Try.prog 17 #[.agg #[.int .u64 f, .slice a row.length c], .int .i64 n, .int .i64 x, u] w fun e w' => e = .returned (.bool (covB m.contains row n x)) ∧ Below w.heap.size w w' := by
  have HP := Lib.hid hp
  have HQ := Lib.hid hq
  have HPO := Lib.hid hp.ok
  obtain ⟨E, hE⟩ : ∃ E, row.length = E := ⟨_, rfl⟩
  have HE := Lib.hid hE
  have hhas : hasB row n = (decide (1 ≤ n) && decide (n ≤ (E : Int))) := by unfold hasB; rw [hE]
  have HHB := Lib.hid (show covB m.contains row n x = (hasB row n && (List.range E).all fun k => missB m.contains (rot row k n.toNat) n x) by unfold covB; rw [hE])
  rw [HHB.out, hhas]
  rw [hE] at HP hl ⊢
  have HA := Lib.hid hhas
  clear hE hp hq hhas HHB
  by_cases h1 : n < 1
  · rw [show (decide (1 ≤ n)) = false by simp; omega]
    have HB := Lib.hid (Go.Joins.below_alloc1 w (.cells #[.int .u64 f, .slice a E c] 25))
    go_enter Try.func17, Try.ntmps17
    go_wp2
    go_ret
    exact ⟨rfl, HB.out⟩
  · by_cases h2 : (E : Int) < n
    · rw [show (decide (n ≤ (E : Int))) = false by simp; omega, Bool.and_false]
      have HB := Lib.hid (Go.Joins.below_alloc1 w (.cells #[.int .u64 f, .slice a E c] 25))
      go_enter Try.func17, Try.ntmps17
      go_wp2
      go_ret
      exact ⟨rfl, HB.out⟩
    · have e1 : decide (1 ≤ n) = true := by simp; omega
      have e2 : decide (n ≤ (E : Int)) = true := by simp; omega
      rw [e1, e2]
      have HAT := Lib.hid (show hasB row n = true by rw [HA.out, e1, e2]; rfl)
      clear e1 e2 HA
      obtain ⟨N, rfl⟩ : ∃ N : Nat, n = N := ⟨n.toNat, by omega⟩
      have d1 : decide ((N : Int) < 1) = false := by simp; omega
      have d2 : decide (E < N) = false := by simp; omega
      have hNE : N ≤ E := by omega
      have HEQ := Lib.hid (Bool.true_and ((List.range E).all fun k => missB m.contains (rot row k ((N : Int)).toNat) (N : Int) x))
      obtain ⟨R, hR⟩ : ∃ R, ((List.range E).all fun k => missB m.contains (rot row k ((N : Int)).toNat) (N : Int) x) = R := ⟨_, rfl⟩
      rw [hR]
      have HR0 := Lib.hid hR
      clear hR HEQ
      obtain ⟨W, hW⟩ : ∃ W, W = w.alloc (.cells #[.int .u64 1, .slice a E c] 25) := ⟨_, rfl⟩
      have hB : Below w.heap.size w W := by rw [hW]; exact Go.Joins.below_alloc1 _ _
      have hbx : Box25 W w.heap.size 1 (.slice a E c) := by rw [hW]; exact Box25.new _ _ _
      have HBX := Lib.hid (And.intro hbx hB)
      clear hbx hB
      go_enter Try.func17, Try.ntmps17
      go_wp2
      rw [← hW]
      clear hW
      go_loopw [9] (fun i wr => ∃ k : Nat, k ≤ E ∧ i = .int .i64 ((k : Int) + 1) ∧ Hid ((∀ j, j < k → missB m.contains (rot row j N) N x = true) ∧ Below W.heap.size W wr)) (fun i _ => E + 1 - (intOf i).toNat)
      case atStart => exact ⟨0, Nat.zero_le _, rfl, (fun j hj => absurd hj (Nat.not_lt_zero j)), Below.refl _ _⟩
      case round =>
        obtain ⟨k, hk, rfl, HR⟩ := hrel
        have hbx := HBX.out.1.below HR.out.2
        have c0 := hbx.c0
        have c1 := hbx.c1
        by_cases hlt : k < E
        · have hltz : (k : Int) < (E : Int) := by omega
          have e3 : IntKind.u64.wrap ((k : Int) + 1) = (k : Int) + 1 := by rw [wrapu]; omega
          have hBwr : Below w.heap.size w (wr.alloc (.cells #[.int .u64 1, .slice a E c] 25)) := (HBX.out.2.trans (HR.out.2.mono HBX.out.2.size)).alloc (by have := HBX.out.2.size; have := HR.out.2.size; omega) _
          have HST := Lib.hid (rset_any wr.heap.size 0 1 1 N ((k : Int) + 1) a c row (wr.alloc (.cells #[.int .u64 1, .slice a E c] 25)) (by rw [HE.out]; exact OneFrag.new _ _ _ _ _) (by rw [HE.out]; exact HP.out.below hBwr) (by rw [HE.out]; exact hl) (by decide) (by omega))
          rw [setL_of HAT.out (by rw [HE.out]; exact hlt), Int.toNat_natCast] at HST
          have HBW := Lib.hid (And.intro hBwr (Go.Joins.below_alloc1 wr (.cells #[.int .u64 1, .slice a E c] 25)))
          have HRO := Lib.hid (show ∀ q ∈ rot row k N, q.ok from rot_ok (by rw [HE.out]; omega) HPO.out)
          have HRL := Lib.hid (rot_length row k N)
          clear hbx hBwr
          go_wp2_with fail
          refine HST.out.mono ?_
          rintro e w1 ⟨v1, rfl, ho1, hb1⟩
          have hB1 : Below w.heap.size w w1 := HBW.out.1.trans (hb1.mono HBW.out.1.size)
          have HM := Lib.hid (rmiss_any v1 u (rot row k N) m N x w1 (ho1.at HRO.out) (HQ.out.below hB1) (by rw [HRL.out]; omega) hm hn hx)
          have HB1 := Lib.hid (show Below W.heap.size W w1 from HR.out.2.trans ((HBW.out.2.trans (hb1.mono HBW.out.2.size)).mono HR.out.2.size))
          clear ho1 hb1 hB1 HST
          go_wp2_with fail
          refine HM.out.mono ?_
          rintro e w2 ⟨rfl, hb2⟩
          have HB2 := Lib.hid (HB1.out.trans (hb2.mono HB1.out.size))
          clear hb2
          cases hmi : missB m.contains (rot row k N) N x
          · have HF := Lib.hid (show R = false from by
              rw [← HR0.out, List.all_eq_false]
              exact ⟨k, List.mem_range.2 hlt, by rw [Int.toNat_natCast, hmi]; simp⟩)
            clear hmi
            go_wp2
            go_ret
            exact ⟨by rw [HF.out]; rfl, HBX.out.2.trans (HB2.out.mono HBX.out.2.size)⟩
          · have HALL := Lib.hid (all_snoc HR.out.1 hmi)
            clear hmi
            go_wp2
            go_roundw
            case rel => exact ⟨k + 1, by omega, by go_num, HALL.out, HB2.out⟩
            case measure => simp [intOf]; omega
        · obtain rfl : k = E := by omega
          have HF := Lib.hid (show R = true from by
            rw [← HR0.out, List.all_eq_true]
            intro j hj
            rw [Int.toNat_natCast]
            exact HR.out.1 j (List.mem_range.1 hj))
          go_wp2
          go_ret
          exact ⟨by rw [HF.out]; rfl, HBX.out.2.trans (HR.out.2.mono HBX.out.2.size)⟩
theorem longf_any (b off cap : Nat) (f : Int) (a : Option Addr) (E c : Nat) (w : World) (h : OneFrag w b off f a E c) :
    Calls Try.prog 31 #[.slice (some ⟨b, off, none⟩) 1 cap] w fun e w' => e = .returned (.bool (decide (30 < E))) ∧ w' = w := by
  have c1 := h.c1
  clear h
  by_cases hE : 30 < E
  · rw [decide_eq_true hE]
    go_enter Try.func31, Try.ntmps31
    go_wp2
    go_loopw [3] (fun i wr => i = .int .i64 0 ∧ wr = w) (fun i _ => 1 - (intOf i).toNat)
    case atStart => exact ⟨rfl, rfl⟩
    case round =>
      obtain ⟨rfl, rfl⟩ := hrel
      go_wp2
      go_ret
      exact ⟨rfl, rfl⟩
  · rw [decide_eq_false hE]
    go_enter Try.func31, Try.ntmps31
    go_wp2
    go_loopw [3] (fun i wr => (i = .int .i64 0 ∨ i = .int .i64 1) ∧ wr = w) (fun i _ => 1 - (intOf i).toNat)
    case atStart => exact ⟨.inl rfl, rfl⟩
    case round =>
      obtain ⟨hi | hi, rfl⟩ := hrel
      · subst hi
        go_wp2
        go_roundw
        case rel => simp
        case measure => simp [intOf]
      · subst hi
        go_wp2
        go_ret
        exact ⟨rfl, rfl⟩
/-- rows of so many -/
def LensAt (w : World) (v : Value) (ls : List Nat) : Prop :=
  ∃ a cap, v = .slice a ls.length cap ∧ ls.length ≤ 1000 ∧ ∀ (j : Nat) L, ls[j]? = some L → ∃ b off a' c', a = some ⟨b, off, none⟩ ∧ w.cell? ⟨b, off + j, none⟩ = some (.slice a' L c')
theorem LensAt.nil (w : World) : LensAt w (.slice none 0 0) [] := ⟨none, 0, rfl, by simp, fun j L h => by simp at h⟩
/-- is something longer than is gone through -/
def longB (E : Nat) (n : Int) (ls : List Nat) : Bool := decide (30 < E) || decide (1000 < n) || ls.any (fun L => decide (60 < L))
set_option maxRecDepth 100000 in
theorem long_any (b off cap : Nat) (f n : Int) (a : Option Addr) (E c : Nat) (v : Value) (ls : List Nat) (w : World) (h : OneFrag w b off f a E c) (hv : LensAt w v ls) :
    Calls Try.prog 10 #[.slice (some ⟨b, off, none⟩) 1 cap, .int .i64 n, v] w fun e w' => e = .returned (.bool (longB E n ls)) ∧ w' = w := by
  have HF := Lib.hid (longf_any b off cap f a E c w h)
  clear h
  obtain ⟨va, vc, rfl, hl, hc⟩ := hv
  have HC := Lib.hid hc
  obtain ⟨L, hL⟩ : ∃ L, ls.length = L := ⟨_, rfl⟩
  rw [hL] at hl ⊢
  have HL := Lib.hid hL
  unfold longB
  clear hc hL
  by_cases hE : 30 < E
  · rw [decide_eq_true hE] at HF ⊢
    rw [Bool.true_or, Bool.true_or]
    go_enter Try.func10, Try.ntmps10
    go_wp2_with fail
    refine HF.out.mono ?_
    rintro e w1 ⟨rfl, rfl⟩
    go_wp2
    go_ret
    exact ⟨rfl, rfl⟩
  · rw [decide_eq_false hE] at HF ⊢
    rw [Bool.false_or]
    by_cases hn : 1000 < n
    · rw [decide_eq_true hn, Bool.true_or]
      go_enter Try.func10, Try.ntmps10
      go_wp2_with fail
      refine HF.out.mono ?_
      rintro e w1 ⟨rfl, rfl⟩
      go_wp2
      go_ret
      exact ⟨rfl, rfl⟩
    · have d1 : decide (1000 < n) = false := decide_eq_false hn
      rw [d1, Bool.false_or]
      obtain ⟨R, hR⟩ : ∃ R, ls.any (fun L => decide (60 < L)) = R := ⟨_, rfl⟩
      rw [hR]
      have HR0 := Lib.hid hR
      clear hR
      go_enter Try.func10, Try.ntmps10
      go_wp2_with fail
      refine HF.out.mono ?_
      rintro e w1 ⟨rfl, rfl⟩
      go_wp2
      go_loopw [7] (fun i wr => ∃ k : Nat, k ≤ L ∧ i = .int .i64 (k : Nat) ∧ Hid (∀ j M, j < k → ls[j]? = some M → ¬ 60 < M) ∧ wr = w1) (fun i _ => L - (intOf i).toNat)
      case atStart => exact ⟨0, Nat.zero_le _, rfl, (fun j M hj => absurd hj (Nat.not_lt_zero j)), rfl⟩
      case round =>
        obtain ⟨k, hk, rfl, HR, rfl⟩ := hrel
        by_cases hlt : k < L
        · have hltz : (k : Int) < (L : Int) := by omega
          obtain ⟨M, hM⟩ : ∃ M, ls[k]? = some M := ⟨_, List.getElem?_eq_getElem (by rw [HL.out]; exact hlt)⟩
          obtain ⟨b', off', a', c', rfl, c0⟩ := HC.out k M hM
          have HM := Lib.hid hM
          clear hM
          by_cases hb : 60 < M
          · have HF2 := Lib.hid (show R = true from by rw [← HR0.out, List.any_eq_true]; exact ⟨M, List.mem_of_getElem? HM.out, by simpa using hb⟩)
            go_wp2
            go_ret
            exact ⟨by rw [HF2.out]; rfl, rfl⟩
          · have HN := Lib.hid (show ∀ j M', j < k + 1 → ls[j]? = some M' → ¬ 60 < M' from fun j M' hj hjm => by
              rcases Nat.lt_or_ge j k with h | h
              · exact HR.out j M' h hjm
              · obtain rfl : j = k := by omega
                rw [HM.out] at hjm
                cases hjm
                exact hb)
            go_wp2
            go_roundw
            case rel => exact ⟨k + 1, by omega, by go_num, HN.out, trivial⟩
            case measure => simp [intOf]; omega
        · obtain rfl : k = L := by omega
          have HF2 := Lib.hid (show R = false from by
            rw [← HR0.out, List.any_eq_false]
            intro M hM
            obtain ⟨j, hj⟩ := List.getElem?_of_mem hM
            have := HR.out j M (by rw [← HL.out]; exact (List.getElem?_eq_some_iff.1 hj).1) hj
            simpa using this)
          go_wp2
          go_ret
          exact ⟨by rw [HF2.out]; rfl, rfl⟩
end Go.Proofs.Ytnfjhpdpeihheaa
