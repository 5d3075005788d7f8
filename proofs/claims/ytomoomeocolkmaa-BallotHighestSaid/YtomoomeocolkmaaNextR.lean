/- The document's Next. -/
import Derived.Test.YtomoomeocolkmaaHigh
namespace Go.Proofs.Ytomoomeocolkmaa
open Go.RowKit
theorem c3_neg (a b : Int) : c3 a b = -1 ∧ a < b ∨ c3 a b = 0 ∧ a = b ∨ c3 a b = 1 ∧ b < a := by
  unfold c3
  rcases Int.lt_trichotomy a b with h | h | h
  · exact .inl ⟨by simp [h], h⟩
  · exact .inr (.inl ⟨by simp [h], h⟩)
  · exact .inr (.inr ⟨by rw [if_neg (by omega), if_pos h], h⟩)
/-- how two ballots stand -/
theorem cmp_cases (a b : BV) : (a.cmp b = -1 ∧ (a.r < b.r ∨ a.r = b.r ∧ (a.n < b.n ∨ a.n = b.n ∧ a.i < b.i))) ∨ (a.cmp b = 0 ∧ a.r = b.r ∧ a.n = b.n ∧ a.i = b.i) ∨ (a.cmp b = 1 ∧ (b.r < a.r ∨ a.r = b.r ∧ (b.n < a.n ∨ a.n = b.n ∧ b.i < a.i))) := by
  unfold BV.cmp or3
  rcases c3_neg a.r b.r with ⟨e1, h1⟩ | ⟨e1, h1⟩ | ⟨e1, h1⟩
  · simp [e1]; omega
  · rcases c3_neg a.n b.n with ⟨e2, h2⟩ | ⟨e2, h2⟩ | ⟨e2, h2⟩
    · simp [e1, e2]; omega
    · rcases c3_neg a.i b.i with ⟨e3, h3⟩ | ⟨e3, h3⟩ | ⟨e3, h3⟩
      · simp [e1, e2, e3]; omega
      · simp [e1, e2, e3]; omega
      · simp [e1, e2, e3]; omega
    · simp [e1, e2]; omega
  · simp [e1]; omega
theorem top_r (l : List BV) (k : Nat) (x : BV) (h : l[k]? = some x) (hx : 0 ≤ x.r) : (top (l.take (k + 1))).r = if (top (l.take k)).r < x.r then x.r else (top (l.take k)).r := by
  have e := topOf_succ BV.cmp BV.zero l k x h
  show (topOf BV.cmp BV.zero (l.take (k + 1))).r = _
  rw [e]
  show (if k = 0 ∨ 0 < x.cmp (top (l.take k)) then x else top (l.take k)).r = _
  by_cases hk : k = 0
  · subst hk
    rw [if_pos (.inl rfl)]
    have : (top (l.take 0)).r = 0 := rfl
    rw [this]
    split <;> omega
  · have := cmp_cases x (top (l.take k))
    by_cases hc : 0 < x.cmp (top (l.take k))
    · rw [if_pos (.inr hc)]
      split <;> omega
    · rw [if_neg (by simp only [not_or]; exact ⟨hk, hc⟩)]
      split <;> omega
set_option maxRecDepth 100000 in
set_option maxHeartbeats 1000000 in
theorem rnext_any (n i : Int) (v : Value) (l : List BV) (w : World) (hp : BsAt w v l) :
    Calls Try.prog 19 #[.int .i64 n, .int .u64 i, v] w fun e w' => e = .returned (.tuple #[(next n i l).1.val, .int .i64 (next n i l).2]) ∧ Below w.heap.size w w' := by
  have HP := Lib.hid hp
  have HOK := Lib.hid hp.ok
  have HTO := Lib.hid (top_ok hp.ok)
  obtain ⟨N, hN⟩ : ∃ N, next n i l = N := ⟨_, rfl⟩
  rw [hN]
  have HN : Hid (next n i l = N) := hN
  clear hN
  obtain ⟨a, cap, rfl, hlen, hlc, hn, hcells⟩ := hp
  clear hcells hn hlc
  obtain ⟨W, hW⟩ : ∃ W, W = w.alloc (.cells #[.int .u64 0, .int .i64 0, .int .u64 0] 24) := ⟨_, rfl⟩
  have HW : Hid (Below w.heap.size w W ∧ Box3 W w.heap.size BV.zero) := by
    rw [hW]
    exact ⟨Go.Joins.below_alloc1 w _, Box3.new w BV.zero⟩
  have HL0 := Lib.hid (fun W => rlife_any n i W)
  cases hl : life n i
  · have HN : Hid (N = (BV.zero, 1)) := by rw [← HN.out, next, hl]; exact rfl
    rw [hl] at HL0
    clear hl HOK HP hlen HTO
    go_enter Try.func19, Try.ntmps19
    go_wp2_with fail
    rw [← hW]
    clear hW
    refine (HL0.out _).mono ?_
    rintro e w3 ⟨rfl, rfl⟩
    obtain ⟨h1, h2⟩ := HW.out
    have z0 := h2.c0
    have z1 := h2.c1
    have z2 := h2.c2
    have zf := h2.fz
    clear h1 h2
    go_wp2
    rw [HN.out]
    exact ends_bal (q := BV.zero) (z := BV.zero) (w3 := w3) rfl rfl rfl HW.out.2 HW.out.1
  · have HN2 : Hid (N = if (top l).r < 4611686018427387903 then (⟨(top l).r + 1, n, i⟩, 0) else (BV.zero, 3)) := by rw [← HN.out, next, hl]; exact rfl
    rw [hl] at HL0
    generalize hL : l.length = L at hlen ⊢
    have HL := Lib.hid hL
    clear hl HN hL
    go_enter Try.func19, Try.ntmps19
    go_wp2_with fail
    rw [← hW]
    clear hW
    refine (HL0.out _).mono ?_
    rintro e w3 ⟨rfl, rfl⟩
    go_wp2
    go_loopw [8, 9] (fun m i wr => wr = w3 ∧ ∃ k : Nat, k ≤ L ∧ i = .int .i64 (k : Nat) ∧ m = .int .u64 (top (l.take k)).r) (fun _ i _ => L - (intOf i).toNat)
    case atStart => exact ⟨rfl, 0, Nat.zero_le _, rfl, rfl⟩
    case round =>
      obtain ⟨rfl, k, hk, rfl, rfl⟩ := hrel
      by_cases hlt : k < L
      · have hltz : (k : Int) < (L : Int) := by omega
        obtain ⟨a', cap', hv, _, _, _, hc⟩ := HP.out.below HW.out.1
        cases hv
        rw [HL.out] at hc
        obtain ⟨b, off, rfl, hb, hc⟩ := hc (by omega)
        obtain ⟨x, hx⟩ : ∃ x, l[k]? = some x := ⟨_, List.getElem?_eq_getElem (by rw [HL.out]; exact hlt)⟩
        obtain ⟨_, hr⟩ := hc k x hx
        have c0 : wr.cell? ⟨b, off + k * 3, none⟩ = some (.int .u64 x.r) := hr 0 (by omega)
        have HS := Lib.hid (top_r l k x hx (HOK.out x (List.mem_of_getElem? hx)).1.1)
        clear hc hr hx
        generalize (top (l.take k)).r = q at HS
        by_cases hq : q < x.r
        · have HS := Lib.hid (show (top (l.take (k + 1))).r = x.r by rw [HS.out, if_pos hq])
          go_wp2
          go_roundw
          case rel => exact ⟨trivial, k + 1, by omega, by go_num, by rw [HS.out]⟩
          case measure => simp [intOf]; omega
        · have HS := Lib.hid (show (top (l.take (k + 1))).r = q by rw [HS.out, if_neg hq])
          go_wp2
          go_roundw
          case rel => exact ⟨trivial, k + 1, by omega, by go_num, by rw [HS.out]⟩
          case measure => simp [intOf]; omega
      · obtain rfl : k = L := by omega
        rw [List.take_of_length_le (by rw [HL.out]; exact Nat.le_refl _)]
        generalize (top l) = t at HN2 HTO ⊢
        obtain ⟨h1, h2⟩ := HW.out
        have z0 := h2.c0
        have z1 := h2.c1
        have z2 := h2.c2
        have zf := h2.fz
        clear h1 h2 hlt
        by_cases ht : t.r < 4611686018427387903
        · have hd : decide (4611686018427387903 ≤ t.r) = false := by simp; omega
          have hw : (t.r + 1) % 18446744073709551616 = t.r + 1 := by have := HTO.out.1; omega
          have HN3 := Lib.hid (show N = (⟨t.r + 1, n, i⟩, 0) by rw [HN2.out, if_pos ht])
          clear ht
          go_wp2
          rw [HN3.out]
          exact ends_bal (q := ⟨t.r + 1, n, i⟩) (z := BV.zero) (w3 := wr) rfl rfl rfl HW.out.2 HW.out.1
        · have hd : decide (4611686018427387903 ≤ t.r) = true := by simp; omega
          have HN3 := Lib.hid (show N = (BV.zero, 3) by rw [HN2.out, if_neg ht])
          clear ht
          go_wp2
          rw [HN3.out]
          exact ends_bal (q := BV.zero) (z := BV.zero) (w3 := wr) rfl rfl rfl HW.out.2 HW.out.1
end Go.Proofs.Ytomoomeocolkmaa
