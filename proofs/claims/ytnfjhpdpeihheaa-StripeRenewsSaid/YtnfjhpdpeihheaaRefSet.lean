/- The document's Frag, Set, Covered, of one fragment. -/
import Derived.Test.YtnfjhpdpeihheaaWake
namespace Go.Proofs.Ytnfjhpdpeihheaa
open Go.RowKit Go.Maps Go.Shelf
set_option maxRecDepth 100000 in
theorem rfrag_any (b off cap : Nat) (f n : Int) (a : Option Addr) (E c : Nat) (w : World) (h : OneFrag w b off f a E c) :
    Calls Try.prog 55 #[.slice (some ⟨b, off, none⟩) 1 cap, .int .u64 n] w fun e w' => e = .returned (.int .i64 (if f ≤ n then 0 else -1)) ∧ w' = w := by
  have c0 := h.c0
  by_cases hfn : f ≤ n
  · rw [if_pos hfn]
    go_enter Try.func55, Try.ntmps55
    go_wp2
    go_loopw [5] (fun i wr => i = .int .i64 0 ∧ wr = w) (fun i _ => (intOf i + 1).toNat)
    case atStart => exact ⟨rfl, rfl⟩
    case round =>
      obtain ⟨rfl, rfl⟩ := hrel
      go_wp2
      go_ret
      exact ⟨rfl, rfl⟩
  · rw [if_neg hfn]
    go_enter Try.func55, Try.ntmps55
    go_wp2
    go_loopw [5] (fun i wr => (i = .int .i64 0 ∨ i = .int .i64 (-1)) ∧ wr = w) (fun i _ => (intOf i + 1).toNat)
    case atStart => exact ⟨.inl rfl, rfl⟩
    case round =>
      obtain ⟨hi | hi, rfl⟩ := hrel
      · subst hi
        go_wp2
        go_roundw
        case rel => simp
        case measure => simp [intOf]
      · subst hi
        go_wp2
        go_ret
        exact ⟨rfl, rfl⟩
/-- a slice of n -/
def IsSl (s : Value) (n : Nat) : Prop := ∃ a c, s = .slice a n c
def slen (v : Value) : Nat := match v with | .slice _ n _ => n | _ => 0
theorem rot_snoc (row : List PL) (fr k : Nat) : rot row fr (k + 1) = rot row fr k ++ [row.getD ((fr + k) % row.length) default] := by
  unfold rot
  rw [List.range_succ, List.map_append]
  rfl
theorem rot_ok {row : List PL} {fr n : Nat} (h : 0 < row.length) (hok : ∀ x ∈ row, x.ok) : ∀ x ∈ rot row fr n, x.ok := fun x hx => hok x (rot_mem h x hx)
set_option maxRecDepth 100000 in
set_option maxHeartbeats 2000000 in
theorem rset_any (b off cap : Nat) (f n k : Int) (a : Option Addr) (c : Nat) (row : List PL) (w : World) (h : OneFrag w b off f a row.length c) (hp : PsAt w (.slice a row.length c) row) (hl : row.length ≤ 100000)
    (hf : 0 ≤ f ∧ f ≤ 18446744073709551615) (hk : 0 ≤ k ∧ k ≤ 18446744073709551615) :
    Calls Try.prog 39 #[.slice (some ⟨b, off, none⟩) 1 cap, .int .i64 n, .int .u64 k] w fun e w' => ∃ v', e = .returned v' ∧ OwnPs w.heap.size w' v' (setL f row n k) ∧ Below w.heap.size w w' := by
  have HF := Lib.hid (rfrag_any b off cap f k a row.length c w h)
  have HP := Lib.hid hp
  have HPO := Lib.hid hp.ok
  have c0 := h.c0
  have c1 := h.c1
  obtain ⟨E, hE⟩ : ∃ E, row.length = E := ⟨_, rfl⟩
  have hhas : hasB row n = (decide (1 ≤ n) && decide (n ≤ (E : Int))) := by unfold hasB; rw [hE]
  unfold setL
  rw [hhas]
  rw [hE] at HP hl c1 ⊢
  have HE := Lib.hid hE
  clear hE h hp hhas
  by_cases hfk : f ≤ k
  · rw [if_pos hfk] at HF
    by_cases hbn : 1 ≤ n ∧ n ≤ (E : Int)
    · rw [if_pos ⟨hfk, by simp [hbn.1, hbn.2]⟩]
      obtain ⟨N, rfl⟩ : ∃ N : Nat, n = N := ⟨n.toNat, by omega⟩
      obtain ⟨J, hJ⟩ : ∃ J : Nat, (k - f) % (E : Int) = J := ⟨((k - f) % (E : Int)).toNat, by have := Int.emod_nonneg (k - f) (show (E : Int) ≠ 0 by omega); omega⟩
      have hJE : J < E := by have := Int.emod_lt_of_pos (k - f) (show (0 : Int) < E by omega); omega
      rw [hJ, show ((J : Int)).toNat = J from Int.toNat_natCast J, show ((N : Int)).toNat = N from Int.toNat_natCast N]
      have e1 : IntKind.u64.wrap (k - f) = k - f := by rw [wrapu]; omega
      have e2 : (k - f).tmod (E : Int) = (J : Int) := by rw [Int.tmod_eq_emod_of_nonneg (by omega)]; exact hJ
      have e3 : IntKind.u64.wrap (E : Int) = E := by rw [wrapu]; omega
      have hE0 : (E : Int) ≠ 0 := by omega
      have hE00 : 0 < E := by omega
      have hEb : ((E : Int) == 0) = false := by simp; omega
      obtain ⟨h1, h2⟩ := hbn
      have d1 : decide ((N : Int) < 1) = false := by simp; omega
      have d2 : decide (E < N) = false := by simp; omega
      go_enter Try.func39, Try.ntmps39
      go_wp2_with fail
      refine HF.out.mono ?_
      rintro e w1 ⟨rfl, rfl⟩
      go_wp2
      clear c0 c1 e1 e2 e3 hJ hf hk hfk
      go_loopw [8, 10] (fun s i wr => ∃ t A : Nat, t ≤ N ∧ i = .int .i64 (A : Nat) ∧ A = (J + t) % E ∧ Hid (OwnPs w1.heap.size wr s (rot row J t) ∧ Below w1.heap.size w1 wr) ∧ IsSl s t) (fun s _ _ => N - slen s)
      case atStart => exact ⟨0, J, Nat.zero_le _, rfl, by rw [Nat.add_zero, Nat.mod_eq_of_lt hJE], ⟨World.ownsRow_nil _ _ _ _, Below.refl _ _⟩, ⟨none, 0, rfl⟩⟩
      case round =>
        obtain ⟨t, A, ht, rfl, hA, HR, sa, sc, rfl⟩ := hrel
        have hAE : A < E := by rw [hA]; exact Nat.mod_lt _ hE00
        by_cases hlt : t < N
        · have hltz : (t : Int) < (N : Int) := by omega
          obtain ⟨x, hx⟩ : ∃ x, row[A]? = some x := ⟨_, List.getElem?_eq_getElem (by rw [HE.out]; exact hAE)⟩
          obtain ⟨r3, r4⟩ := HR.out
          have hPK := HP.out.below r4
          obtain ⟨b2, off2, rfl, hb2, hc⟩ := PsAt.cell hPK hx
          obtain ⟨c0, c1⟩ := hc wr (Below.refl _ _)
          have hxo := hPK.ok x (List.mem_of_getElem? hx)
          have HSN := Lib.hid (show rot row J (t + 1) = rot row J t ++ [x] by rw [rot_snoc, HE.out, ← hA, List.getD_eq_getElem?_getD, hx]; rfl)
          have HA2 : Hid (OwnPs w1.heap.size (wr.alloc (.cells #[.int .i64 x.n, .int .u64 x.s] 38)) (.slice sa t sc) (rot row J t) ∧ PsAt (wr.alloc (.cells #[.int .i64 x.n, .int .u64 x.s] 38)) (.slice (some ⟨wr.heap.size, 0, none⟩) 1 1) [x] ∧ Below w1.heap.size w1 (wr.alloc (.cells #[.int .i64 x.n, .int .u64 x.s] 38)) ∧ w1.heap.size ≤ (wr.alloc (.cells #[.int .i64 x.n, .int .u64 x.s] 38)).heap.size) :=
            ⟨r3.kept (Go.Joins.below_alloc1 wr _) (Nat.le_refl _), ps_one wr x hxo, r4.alloc r4.size _, by rw [World.size_alloc]; have := r4.size; omega⟩
          have HLE := Lib.hid (show (rot row J t).length = t from rot_length _ _ _)
          have HOKS := Lib.hid (show ∀ q ∈ rot row J t ++ [x], q.ok from by rw [← HSN.out]; exact rot_ok (by rw [HE.out]; exact hE00) HPO.out)
          clear hx hc hPK hxo r3 r4 HR hb2
          have HLX := Lib.hid (show (rot row J t ++ [x]).length = t + 1 from by rw [List.length_append, HLE.out]; rfl)
          by_cases hAe : A + 1 = E
          · have hm : (J + (t + 1)) % E = 0 := by
              rw [← Nat.add_assoc, Nat.add_mod, ← hA]
              rcases Nat.eq_or_lt_of_le (show 1 ≤ E by omega) with h | h
              · rw [← h]; omega
              · rw [Nat.mod_eq_of_lt h, hAe, Nat.mod_self]
            have HM := Lib.hid hm
            have hAz : (((A : Int) + 1) == (E : Int)) = true := by simp; omega
            clear hm hA
            go_wp2_with (at_builtin; refine wpList_append_rows rfl _ _ 23 38 2 16 _ PL.cells rfl Try.underlying23 info38 rfl (by decide) (by decide) (fun _ => rfl) w1.heap.size _ _ (rot row J t) [x] rfl rfl HA2.out.1 HA2.out.2.1 (ps_oneCell _) (by rw [HLE.out]; simp only [List.length_cons, List.length_nil]; omega) HA2.out.2.2.2 ?_; intro v2 w2 ho2 hg2; have hbb := HA2.out.2.2.1.grown hg2 HA2.out.2.2.1.size (fun j hj => (HA2.out.1.own j hj)); obtain ⟨v2a, v2c, rfl⟩ := OwnPs.form ho2 HOKS.out; have hlx := HLX.out; rw [hlx] at ho2 ⊢; have H2 := Lib.hid (And.intro ho2 hbb); clear ho2 hg2 hbb hlx)
            go_roundw
            case rel => exact ⟨t + 1, 0, by omega, by go_num, HM.out.symm, by rw [HSN.out]; exact H2.out, ⟨_, _, rfl⟩⟩
            case measure => show N - (t + 1) < N - t; omega
          · have hm : (J + (t + 1)) % E = (A + 1) := by
              rw [← Nat.add_assoc, Nat.add_mod, ← hA, Nat.mod_eq_of_lt (show 1 < E by omega), Nat.mod_eq_of_lt (show A + 1 < E by omega)]
            have HM := Lib.hid hm
            have hAz : (((A : Int) + 1) == (E : Int)) = false := by simp; omega
            clear hm hA
            go_wp2_with (at_builtin; refine wpList_append_rows rfl _ _ 23 38 2 16 _ PL.cells rfl Try.underlying23 info38 rfl (by decide) (by decide) (fun _ => rfl) w1.heap.size _ _ (rot row J t) [x] rfl rfl HA2.out.1 HA2.out.2.1 (ps_oneCell _) (by rw [HLE.out]; simp only [List.length_cons, List.length_nil]; omega) HA2.out.2.2.2 ?_; intro v2 w2 ho2 hg2; have hbb := HA2.out.2.2.1.grown hg2 HA2.out.2.2.1.size (fun j hj => (HA2.out.1.own j hj)); obtain ⟨v2a, v2c, rfl⟩ := OwnPs.form ho2 HOKS.out; have hlx := HLX.out; rw [hlx] at ho2 ⊢; have H2 := Lib.hid (And.intro ho2 hbb); clear ho2 hg2 hbb hlx)
            go_roundw
            case rel => exact ⟨t + 1, (A + 1), by omega, by go_num, HM.out.symm, by rw [HSN.out]; exact H2.out, ⟨_, _, rfl⟩⟩
            case measure => show N - (t + 1) < N - t; omega
        · obtain rfl : t = N := by omega
          go_wp2
          go_ret
          exact ⟨_, rfl, HR.out⟩
    · rw [if_neg (by simp; intro _ h1; omega)]
      have hlow : n < 1 ∨ (E : Int) < n := by omega
      by_cases h1 : n < 1
      · go_enter Try.func39, Try.ntmps39
        go_wp2_with fail
        refine HF.out.mono ?_
        rintro e w1 ⟨rfl, rfl⟩
        go_wp2
        go_ret
        exact ⟨_, rfl, World.ownsRow_nil _ _ _ _, Below.refl _ _⟩
      · have h2 : (E : Int) < n := by omega
        clear hlow hbn
        go_enter Try.func39, Try.ntmps39
        go_wp2_with fail
        refine HF.out.mono ?_
        rintro e w1 ⟨rfl, rfl⟩
        go_wp2
        go_ret
        exact ⟨_, rfl, World.ownsRow_nil _ _ _ _, Below.refl _ _⟩
  · rw [if_neg hfk] at HF
    rw [if_neg (fun h => hfk h.1)]
    go_enter Try.func39, Try.ntmps39
    go_wp2_with fail
    refine HF.out.mono ?_
    rintro e w1 ⟨rfl, rfl⟩
    go_wp2
    go_ret
    exact ⟨_, rfl, World.ownsRow_nil _ _ _ _, Below.refl _ _⟩
end Go.Proofs.Ytnfjhpdpeihheaa
