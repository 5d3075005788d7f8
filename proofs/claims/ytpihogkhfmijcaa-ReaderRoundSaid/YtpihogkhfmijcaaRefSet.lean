/- The document's Frag, Set, of any row of fragments. -/
import Derived.Test.YtpihogkhfmijcaaSet
import Derived.Test.YtpihogkhfmijcaaExt
namespace Go.Proofs.Ytpihogkhfmijcaa
open Go.RowKit Go.Maps Go.Shelf
theorem fragV_at {L : List FV} {n : Int} {k : Nat} {x : FV} (h : L[k]? = some x) (hx : x.f ≤ n) (hn : NoneOf n ((revs L).take (L.length - 1 - k))) : fragV L n = some x := by
  have ht := revs_take h
  have hl : (lastY ((revs L).take (L.length - k))).2 = x := by rw [← ht, lastY_snoc]
  have := fragV_some (L := L) (n := n) (t := L.length - k) (by rw [← ht]; simp) (by rw [hl]; exact hx) (by rw [← ht, List.dropLast_concat]; exact hn)
  rw [hl] at this
  exact this
theorem NoneOf.snoc {n : Int} {pre : List (Int × FV)} {y : Int × FV} (h : NoneOf n pre) (hy : ¬ y.2.f ≤ n) : NoneOf n (pre ++ [y]) := fun z hz => by
  rcases List.mem_append.1 hz with hz | hz
  · exact h z hz
  · rw [List.mem_singleton] at hz; rw [hz]; exact hy
set_option maxRecDepth 100000 in
theorem rfrag_any (v : Value) (n : Int) (L : List FV) (w : World) (h : FsAt w v L) :
    Calls Try.prog 24 #[v, .int .u64 n] w fun e w' => ((e = .returned (.int .i64 (-1)) ∧ fragV L n = none) ∨ ∃ (k : Nat) (x : FV), e = .returned (.int .i64 (k : Nat)) ∧ L[k]? = some x ∧ fragV L n = some x) ∧ w' = w := by
  obtain ⟨a, cap, rfl, hlen, -⟩ := RowAt.form h
  have HC := Lib.hid h
  have HAT := Lib.hid (fun (k : Nat) (x : FV) (h : L[k]? = some x) => fragV_at (n := n) h)
  have HTK := Lib.hid (fun (k : Nat) (x : FV) (h : L[k]? = some x) => revs_take h)
  have HNN := Lib.hid (show NoneOf n (revs L) → fragV L n = none from fun h => fragV_none h)
  have HRL := Lib.hid (revs_len L)
  obtain ⟨N, hN⟩ : ∃ N, L.length = N := ⟨_, rfl⟩
  rw [hN] at HC HAT HTK HRL hlen ⊢
  have HN := Lib.hid hN
  clear hN h
  go_enter Try.func24, Try.ntmps24
  go_wp2
  go_loopw [5] (fun i wr => ((∃ k : Nat, k < N ∧ i = .int .i64 (k : Nat) ∧ Hid (NoneOf n ((revs L).take (N - 1 - k)))) ∨ (i = .int .i64 (-1) ∧ Hid (NoneOf n (revs L)))) ∧ wr = w) (fun i _ => (intOf i + 1).toNat)
  case atStart =>
    refine ⟨?_, rfl⟩
    rcases Nat.eq_zero_or_pos N with rfl | hp
    · refine .inr ⟨by go_num, ?_⟩
      intro y hy
      rw [List.eq_nil_of_length_eq_zero HRL.out] at hy
      cases hy
    · refine .inl ⟨N - 1, by omega, by go_num, ?_⟩
      intro y hy
      rw [Nat.sub_self, List.take_zero] at hy
      cases hy
  case round =>
    obtain ⟨⟨k, hk, rfl, HO⟩ | ⟨rfl, HO⟩, rfl⟩ := hrel
    · obtain ⟨x, hx⟩ : ∃ x, L[k]? = some x := ⟨_, List.getElem?_eq_getElem (by rw [HN.out]; exact hk)⟩
      have hkz : (k : Int) < (N : Int) := by omega
      obtain ⟨b, off, rfl, -, -, hc⟩ := FsAt.cell HC.out hx
      obtain ⟨c0, -⟩ := hc wr (Below.refl _ _)
      have HX := Lib.hid hx
      clear hc hx
      by_cases hfn : x.f ≤ n
      · have HF := Lib.hid (HAT.out k x HX.out hfn HO.out)
        go_wp2
        go_ret
        exact ⟨.inr ⟨k, x, rfl, HX.out, HF.out⟩, rfl⟩
      · have HS := Lib.hid (show NoneOf n ((revs L).take (N - k)) from by rw [← HTK.out k x HX.out]; exact HO.out.snoc hfn)
        rcases Nat.eq_zero_or_pos k with rfl | hk0
        · have HS2 := Lib.hid (show NoneOf n (revs L) from by have := HS.out; rw [Nat.sub_zero, take_all HRL.out] at this; exact this)
          rw [Nat.zero_mul, Nat.add_zero] at c0
          go_wp2
          go_roundw
          case rel => exact ⟨.inr ⟨by go_num, HS2.out⟩, by first | rfl | trivial⟩
          case measure => simp [intOf]
        · obtain ⟨j, rfl⟩ : ∃ j, k = j + 1 := ⟨k - 1, by omega⟩
          go_wp2
          go_roundw
          case rel => exact ⟨.inl ⟨j, by omega, by go_num, by unfold Hid; rw [show N - 1 - j = N - (j + 1) by omega]; exact HS.out⟩, by first | rfl | trivial⟩
          case measure => simp [intOf]; omega
    · have HF := Lib.hid (HNN.out HO.out)
      go_wp2
      go_ret
      exact ⟨.inl ⟨rfl, HF.out⟩, rfl⟩
/-- a slice of n -/
def IsSl (s : Value) (n : Nat) : Prop := ∃ a c, s = .slice a n c
def slen (v : Value) : Nat := match v with | .slice _ n _ => n | _ => 0
set_option maxRecDepth 100000 in
set_option maxHeartbeats 2000000 in
theorem rset_any (v : Value) (n k : Int) (L : List FV) (w : World) (h : FsAt w v L) (hl : ∀ x ∈ L, x.ps.length ≤ 100000) (hk : 0 ≤ k ∧ k ≤ 18446744073709551615) :
    Calls Try.prog 10 #[v, .int .i64 n, .int .u64 k] w fun e w' => ∃ v', e = .returned v' ∧ OwnPs w.heap.size w' v' (setV L n k) ∧ Below w.heap.size w w' := by
  have HF := Lib.hid (rfrag_any v k L w h)
  have HL := Lib.hid h
  have HLL := Lib.hid hl
  obtain ⟨va, vc, rfl, hlen, -⟩ := RowAt.form h
  clear h hl
  unfold setV
  cases hfv : fragV L k with
  | none =>
    rw [hfv] at HF
    go_enter Try.func10, Try.ntmps10
    go_wp2_with fail
    refine HF.out.mono ?_
    rintro e w1 ⟨⟨rfl, -⟩ | ⟨_, x, -, -, hx⟩, rfl⟩
    · go_wp2
      go_ret
      exact ⟨_, rfl, World.ownsRow_nil _ _ _ _, Below.refl _ _⟩
    · cases hx
  | some x =>
    obtain ⟨hxm, hfk⟩ := fragV_mem hfv
    obtain ⟨hf, hp⟩ := RowAt.each HL.out x hxm
    have hl := HLL.out x hxm
    obtain ⟨f, a, c, row⟩ := x
    dsimp only at hfk hf hp hl ⊢
    unfold u64ok at hf
    obtain ⟨LL, hLL⟩ : ∃ LL, L.length = LL := ⟨_, rfl⟩
    rw [hLL] at HF HL hlen ⊢
    replace HF := Lib.hid (show Calls Try.prog 24 #[.slice va LL vc, .int .u64 k] w fun e w' => ∃ KK : Nat, e = .returned (.int .i64 (KK : Nat)) ∧ w' = w ∧ (KK : Int) < (LL : Int) ∧ Hid (L[KK]? = some ⟨f, a, c, row⟩) from HF.out.mono fun e w' ⟨hh, hb⟩ => by
      rcases hh with ⟨-, hn⟩ | ⟨KK, y, he, hy, hy2⟩
      · rw [hfv] at hn; cases hn
      · rw [hfv] at hy2; cases hy2; exact ⟨KK, he, hb, by have := (List.getElem?_eq_some_iff.1 hy).1; omega, hy⟩)
    clear HLL hxm hfv hLL
    have HP := Lib.hid hp
    have HPO := Lib.hid hp.ok
    obtain ⟨E, hE⟩ : ∃ E, row.length = E := ⟨_, rfl⟩
    have hhas : hasB row n = (decide (1 ≤ n) && decide (n ≤ (E : Int))) := by unfold hasB; rw [hE]
    unfold setL
    rw [hhas]
    rw [hE] at HP hl ⊢
    have HE := Lib.hid hE
    clear hE hp hhas
    by_cases hbn : 1 ≤ n ∧ n ≤ (E : Int)
    · rw [if_pos ⟨hfk, by simp [hbn.1, hbn.2]⟩]
      obtain ⟨N, rfl⟩ : ∃ N : Nat, n = N := ⟨n.toNat, by omega⟩
      obtain ⟨J, hJ⟩ : ∃ J : Nat, (k - f) % (E : Int) = J := ⟨((k - f) % (E : Int)).toNat, by have := Int.emod_nonneg (k - f) (show (E : Int) ≠ 0 by omega); omega⟩
      have hJE : J < E := by have := Int.emod_lt_of_pos (k - f) (show (0 : Int) < E by omega); omega
      rw [hJ, show ((J : Int)).toNat = J from Int.toNat_natCast J, show ((N : Int)).toNat = N from Int.toNat_natCast N]
      have e1 : IntKind.u64.wrap (k - f) = k - f := by rw [wrapu]; omega
      have e2 : (k - f).tmod (E : Int) = (J : Int) := by rw [Int.tmod_eq_emod_of_nonneg (by omega)]; exact hJ
      have e3 : IntKind.u64.wrap (E : Int) = E := by rw [wrapu]; omega
      have hE0 : (E : Int) ≠ 0 := by omega
      have hE00 : 0 < E := by omega
      have hEb : ((E : Int) == 0) = false := by simp; omega
      obtain ⟨h1, h2⟩ := hbn
      have d1 : decide ((N : Int) < 1) = false := by simp; omega
      have d2 : decide (E < N) = false := by simp; omega
      go_enter Try.func10, Try.ntmps10
      go_wp2_with fail
      refine HF.out.mono ?_
      rintro e w1 ⟨KK, rfl, rfl, hKz, HKK⟩
      obtain ⟨kb, koff, rfl, -, -, hkc⟩ := FsAt.cell HL.out HKK.out
      obtain ⟨c0, c1⟩ := hkc w1 (Below.refl _ _)
      dsimp only at c0 c1
      rw [HE.out] at c1
      clear hkc
      go_wp2
      clear c0 c1 e1 e2 e3 hJ hf hk hfk
      go_loopw [8, 10] (fun s i wr => ∃ t A : Nat, t ≤ N ∧ i = .int .i64 (A : Nat) ∧ A = (J + t) % E ∧ Hid (OwnPs w1.heap.size wr s (rot row J t) ∧ Below w1.heap.size w1 wr) ∧ IsSl s t) (fun s _ _ => N - slen s)
      case atStart => exact ⟨0, J, Nat.zero_le _, rfl, by rw [Nat.add_zero, Nat.mod_eq_of_lt hJE], ⟨World.ownsRow_nil _ _ _ _, Below.refl _ _⟩, ⟨none, 0, rfl⟩⟩
      case round =>
        obtain ⟨t, A, ht, rfl, hA, HR, sa, sc, rfl⟩ := hrel
        have hAE : A < E := by rw [hA]; exact Nat.mod_lt _ hE00
        by_cases hlt : t < N
        · have hltz : (t : Int) < (N : Int) := by omega
          obtain ⟨x, hx⟩ : ∃ x, row[A]? = some x := ⟨_, List.getElem?_eq_getElem (by rw [HE.out]; exact hAE)⟩
          obtain ⟨r3, r4⟩ := HR.out
          have hPK := HP.out.below r4
          obtain ⟨b2, off2, rfl, hb2, hc⟩ := PsAt.cell hPK hx
          obtain ⟨c0, c1⟩ := hc wr (Below.refl _ _)
          have hxo := hPK.ok x (List.mem_of_getElem? hx)
          have HSN := Lib.hid (show rot row J (t + 1) = rot row J t ++ [x] by rw [rot_snoc, HE.out, ← hA, List.getD_eq_getElem?_getD, hx]; rfl)
          have HA2 : Hid (OwnPs w1.heap.size (wr.alloc (.cells #[.int .i64 x.n, .int .u64 x.s] 38)) (.slice sa t sc) (rot row J t) ∧ PsAt (wr.alloc (.cells #[.int .i64 x.n, .int .u64 x.s] 38)) (.slice (some ⟨wr.heap.size, 0, none⟩) 1 1) [x] ∧ Below w1.heap.size w1 (wr.alloc (.cells #[.int .i64 x.n, .int .u64 x.s] 38)) ∧ w1.heap.size ≤ (wr.alloc (.cells #[.int .i64 x.n, .int .u64 x.s] 38)).heap.size) :=
            ⟨r3.kept (Go.Joins.below_alloc1 wr _) (Nat.le_refl _), ps_one wr x hxo, r4.alloc r4.size _, by rw [World.size_alloc]; have := r4.size; omega⟩
          have HLE := Lib.hid (show (rot row J t).length = t from rot_length _ _ _)
          have HOKS := Lib.hid (show ∀ q ∈ rot row J t ++ [x], q.ok from by rw [← HSN.out]; exact rot_ok (by rw [HE.out]; exact hE00) HPO.out)
          clear hx hc hPK hxo r3 r4 HR hb2
          have HLX := Lib.hid (show (rot row J t ++ [x]).length = t + 1 from by rw [List.length_append, HLE.out]; rfl)
          by_cases hAe : A + 1 = E
          · have hm : (J + (t + 1)) % E = 0 := by
              rw [← Nat.add_assoc, Nat.add_mod, ← hA]
              rcases Nat.eq_or_lt_of_le (show 1 ≤ E by omega) with h | h
              · rw [← h]; omega
              · rw [Nat.mod_eq_of_lt h, hAe, Nat.mod_self]
            have HM := Lib.hid hm
            have hAz : (((A : Int) + 1) == (E : Int)) = true := by simp; omega
            clear hm hA
            go_wp2_with (at_builtin; refine wpList_append_rows rfl _ _ 30 38 2 16 _ PL.cells rfl Try.underlying30 info38 rfl (by decide) (by decide) (fun _ => rfl) w1.heap.size _ _ (rot row J t) [x] rfl rfl HA2.out.1 HA2.out.2.1 (ps_oneCell _) (by rw [HLE.out]; simp only [List.length_cons, List.length_nil]; omega) HA2.out.2.2.2 ?_; intro v2 w2 ho2 hg2; have hbb := HA2.out.2.2.1.grown hg2 HA2.out.2.2.1.size (fun j hj => (HA2.out.1.own j hj)); obtain ⟨v2a, v2c, rfl⟩ := OwnPs.form ho2 HOKS.out; have hlx := HLX.out; rw [hlx] at ho2 ⊢; have H2 := Lib.hid (And.intro ho2 hbb); clear ho2 hg2 hbb hlx)
            go_roundw
            case rel => exact ⟨t + 1, 0, by omega, by go_num, HM.out.symm, by rw [HSN.out]; exact H2.out, ⟨_, _, rfl⟩⟩
            case measure => show N - (t + 1) < N - t; omega
          · have hm : (J + (t + 1)) % E = (A + 1) := by
              rw [← Nat.add_assoc, Nat.add_mod, ← hA, Nat.mod_eq_of_lt (show 1 < E by omega), Nat.mod_eq_of_lt (show A + 1 < E by omega)]
            have HM := Lib.hid hm
            have hAz : (((A : Int) + 1) == (E : Int)) = false := by simp; omega
            clear hm hA
            go_wp2_with (at_builtin; refine wpList_append_rows rfl _ _ 30 38 2 16 _ PL.cells rfl Try.underlying30 info38 rfl (by decide) (by decide) (fun _ => rfl) w1.heap.size _ _ (rot row J t) [x] rfl rfl HA2.out.1 HA2.out.2.1 (ps_oneCell _) (by rw [HLE.out]; simp only [List.length_cons, List.length_nil]; omega) HA2.out.2.2.2 ?_; intro v2 w2 ho2 hg2; have hbb := HA2.out.2.2.1.grown hg2 HA2.out.2.2.1.size (fun j hj => (HA2.out.1.own j hj)); obtain ⟨v2a, v2c, rfl⟩ := OwnPs.form ho2 HOKS.out; have hlx := HLX.out; rw [hlx] at ho2 ⊢; have H2 := Lib.hid (And.intro ho2 hbb); clear ho2 hg2 hbb hlx)
            go_roundw
            case rel => exact ⟨t + 1, (A + 1), by omega, by go_num, HM.out.symm, by rw [HSN.out]; exact H2.out, ⟨_, _, rfl⟩⟩
            case measure => show N - (t + 1) < N - t; omega
        · obtain rfl : t = N := by omega
          go_wp2
          go_ret
          exact ⟨_, rfl, HR.out⟩
    · rw [if_neg (by simp; intro _ h1; omega)]
      have hlow : n < 1 ∨ (E : Int) < n := by omega
      by_cases h1 : n < 1
      · go_enter Try.func10, Try.ntmps10
        go_wp2_with fail
        refine HF.out.mono ?_
        rintro e w1 ⟨KK, rfl, rfl, hKz, HKK⟩
        obtain ⟨kb, koff, rfl, -, -, hkc⟩ := FsAt.cell HL.out HKK.out
        obtain ⟨c0, c1⟩ := hkc w1 (Below.refl _ _)
        dsimp only at c0 c1
        rw [HE.out] at c1
        clear hkc
        go_wp2
        go_ret
        exact ⟨_, rfl, World.ownsRow_nil _ _ _ _, Below.refl _ _⟩
      · have h2 : (E : Int) < n := by omega
        clear hlow hbn
        go_enter Try.func10, Try.ntmps10
        go_wp2_with fail
        refine HF.out.mono ?_
        rintro e w1 ⟨KK, rfl, rfl, hKz, HKK⟩
        obtain ⟨kb, koff, rfl, -, -, hkc⟩ := FsAt.cell HL.out HKK.out
        obtain ⟨c0, c1⟩ := hkc w1 (Below.refl _ _)
        dsimp only at c0 c1
        rw [HE.out] at c1
        clear hkc
        go_wp2
        go_ret
        exact ⟨_, rfl, World.ownsRow_nil _ _ _ _, Below.refl _ _⟩
end Go.Proofs.Ytpihogkhfmijcaa
