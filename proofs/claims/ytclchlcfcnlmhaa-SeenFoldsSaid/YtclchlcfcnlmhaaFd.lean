/- The same; slices.Clone, IndexFunc, DeleteFunc of marks; Cut. -/
import Derived.Test.YtclchlcfcnlmhaaFc
namespace Go.Proofs.Ytclchlcfcnlmhaa
open Go.RowKit Go.Maps Go.Shelf
set_option linter.unusedSimpArgs false
theorem take_eq_snoc {l m : List MK} {k : Nat} {x y : MK} (h : l.take k = m.take k) (hx : l[k]? = some x) (hy : m[k]? = some y) : l.take (k + 1) = m.take (k + 1) ↔ x = y := by
  rw [take_snoc hx, take_snoc hy, h]
  simp
set_option maxRecDepth 100000 in
set_option maxHeartbeats 1000000 in
theorem rsame_any (v u : Value) (l m : List MK) (w : World) (hp : MsAt w v l) (hq : MsAt w u m) :
    Calls Try.prog 17 #[v, u] w fun e w' => e = .returned (.bool (decide (l = m))) ∧ Below w.heap.size w w' := by
  have HP := Lib.hid hp
  have HQ := Lib.hid hq
  obtain ⟨a, cap, rfl, hlen, -⟩ := hp
  obtain ⟨a2, cap2, rfl, hlen2, -⟩ := hq
  obtain ⟨L, hL⟩ : ∃ L, l.length = L := ⟨_, rfl⟩
  obtain ⟨M, hM⟩ : ∃ M, m.length = M := ⟨_, rfl⟩
  rw [hL] at hlen HP ⊢
  rw [hM] at hlen2 HQ ⊢
  have HL := Lib.hid hL
  have HM := Lib.hid hM
  clear hL hM
  by_cases hLM : L = M
  · subst hLM
    go_enter Try.func17, Try.ntmps17
    go_wp2
    go_loopw [5] (fun i wr => ∃ k : Nat, k ≤ L ∧ i = .int .i64 (k : Nat) ∧ Hid (l.take k = m.take k ∧ Below w.heap.size w wr)) (fun i _ => L - (intOf i).toNat)
    case atStart => exact ⟨0, Nat.zero_le _, rfl, by simp, Below.refl _ _⟩
    case round =>
      obtain ⟨k, hk, rfl, HR⟩ := hrel
      by_cases hlt : k < L
      · obtain ⟨x, hx⟩ : ∃ x, l[k]? = some x := ⟨_, List.getElem?_eq_getElem (by rw [HL.out]; exact hlt)⟩
        obtain ⟨y, hy⟩ : ∃ y, m[k]? = some y := ⟨_, List.getElem?_eq_getElem (by rw [HM.out]; exact hlt)⟩
        have hltz : (k : Int) < (L : Int) := by omega
        obtain ⟨r3, r4⟩ := HR.out
        obtain ⟨b, off, rfl, hb, hc⟩ := MsAt.cell (HP.out.below r4) hx
        obtain ⟨c0, c1, c2⟩ := hc wr (Below.refl _ _)
        obtain ⟨b2, off2, rfl, hb2, hc2⟩ := MsAt.cell (HQ.out.below r4) hy
        obtain ⟨d0, d1, d2⟩ := hc2 wr (Below.refl _ _)
        have k1 := fun w => neq26 x y w
        have kg := guard26
        have HTE := Lib.hid (take_eq_snoc r3 hx hy)
        have HB := Lib.hid r4
        clear hc hc2 hx hy r3 r4 HR hb hb2
        by_cases hxy : x = y
        · rw [decide_eq_true hxy] at k1
          dsimp only [MK.val, Bool.not_true] at k1
          have HT := Lib.hid (HTE.out.2 hxy)
          clear hxy
          go_wp2_with fail
          go_quiet (fail)
          go_wp2
          go_roundw
          case rel => exact ⟨k + 1, by omega, by go_num, HT.out, drewN_below HB.out _⟩
          case measure => simp [intOf]; omega
        · rw [decide_eq_false hxy] at k1
          dsimp only [MK.val, Bool.not_false] at k1
          have HT := Lib.hid (show decide (l = m) = false from decide_eq_false fun e => hxy (HTE.out.1 (by rw [e])))
          clear hxy
          go_wp2_with fail
          go_quiet (fail)
          go_wp2
          go_ret
          exact ⟨by rw [HT.out]; rfl, drewN_below HB.out _⟩
      · obtain rfl : k = L := by omega
        have HT := Lib.hid (show decide (l = m) = true from decide_eq_true (by have := HR.out.1; rw [take_all HL.out, take_all HM.out] at this; exact this))
        go_wp2
        go_ret
        exact ⟨by rw [HT.out]; rfl, HR.out.2⟩
  · have hne : ((L : Int) == (M : Int)) = false := by simp; omega
    have HT := Lib.hid (show decide (l = m) = false from decide_eq_false fun e => hLM (by rw [← HL.out, ← HM.out, e]))
    go_enter Try.func17, Try.ntmps17
    go_wp2
    go_ret
    exact ⟨by rw [HT.out]; rfl, Below.refl _ _⟩
set_option maxRecDepth 100000 in
set_option maxHeartbeats 1000000 in
theorem equal_any (v u : Value) (l m : List MK) (w : World) (hp : MsAt w v l) (hq : MsAt w u m) :
    Calls Try.prog 36 #[v, u] w fun e w' => e = .returned (.bool (decide (l = m))) ∧ Below w.heap.size w w' := by
  have HP := Lib.hid hp
  have HQ := Lib.hid hq
  obtain ⟨a, cap, rfl, hlen, -⟩ := hp
  obtain ⟨a2, cap2, rfl, hlen2, -⟩ := hq
  obtain ⟨L, hL⟩ : ∃ L, l.length = L := ⟨_, rfl⟩
  obtain ⟨M, hM⟩ : ∃ M, m.length = M := ⟨_, rfl⟩
  rw [hL] at hlen HP ⊢
  rw [hM] at hlen2 HQ ⊢
  have HL := Lib.hid hL
  have HM := Lib.hid hM
  clear hL hM
  by_cases hLM : L = M
  · subst hLM
    go_enter Try.func36, Try.ntmps36
    go_wp2
    go_loopw [13] (fun i wr => ∃ k : Nat, k ≤ L ∧ i = .int .i64 (k : Nat) ∧ Hid (l.take k = m.take k ∧ Below w.heap.size w wr)) (fun i _ => L - (intOf i).toNat)
    case atStart => exact ⟨0, Nat.zero_le _, rfl, by simp, Below.refl _ _⟩
    case round =>
      obtain ⟨k, hk, rfl, HR⟩ := hrel
      by_cases hlt : k < L
      · obtain ⟨x, hx⟩ : ∃ x, l[k]? = some x := ⟨_, List.getElem?_eq_getElem (by rw [HL.out]; exact hlt)⟩
        obtain ⟨y, hy⟩ : ∃ y, m[k]? = some y := ⟨_, List.getElem?_eq_getElem (by rw [HM.out]; exact hlt)⟩
        have hltz : (k : Int) < (L : Int) := by omega
        obtain ⟨r3, r4⟩ := HR.out
        obtain ⟨b, off, rfl, hb, hc⟩ := MsAt.cell (HP.out.below r4) hx
        obtain ⟨c0, c1, c2⟩ := hc wr (Below.refl _ _)
        obtain ⟨b2, off2, rfl, hb2, hc2⟩ := MsAt.cell (HQ.out.below r4) hy
        obtain ⟨d0, d1, d2⟩ := hc2 wr (Below.refl _ _)
        have k1 := fun w => neq26 x y w
        have kg := guard26
        have HTE := Lib.hid (take_eq_snoc r3 hx hy)
        have HB := Lib.hid r4
        clear hc hc2 hx hy r3 r4 HR hb hb2
        by_cases hxy : x = y
        · rw [decide_eq_true hxy] at k1
          dsimp only [MK.val, Bool.not_true] at k1
          have HT := Lib.hid (HTE.out.2 hxy)
          clear hxy
          go_wp2_with fail
          go_quiet (fail)
          go_wp2
          go_roundw
          case rel => exact ⟨k + 1, by omega, by go_num, HT.out, drewN_below HB.out _⟩
          case measure => simp [intOf]; omega
        · rw [decide_eq_false hxy] at k1
          dsimp only [MK.val, Bool.not_false] at k1
          have HT := Lib.hid (show decide (l = m) = false from decide_eq_false fun e => hxy (HTE.out.1 (by rw [e])))
          clear hxy
          go_wp2_with fail
          go_quiet (fail)
          go_wp2
          go_ret
          exact ⟨by rw [HT.out]; rfl, drewN_below HB.out _⟩
      · obtain rfl : k = L := by omega
        have HT := Lib.hid (show decide (l = m) = true from decide_eq_true (by have := HR.out.1; rw [take_all HL.out, take_all HM.out] at this; exact this))
        go_wp2
        go_ret
        exact ⟨by rw [HT.out]; rfl, HR.out.2⟩
  · have hne : ((L : Int) == (M : Int)) = false := by simp; omega
    have HT := Lib.hid (show decide (l = m) = false from decide_eq_false fun e => hLM (by rw [← HL.out, ← HM.out, e]))
    go_enter Try.func36, Try.ntmps36
    go_wp2
    go_ret
    exact ⟨by rw [HT.out]; rfl, Below.refl _ _⟩
theorem same_any (v u : Value) (l m : List MK) (w : World) (hp : MsAt w v l) (hq : MsAt w u m) : Calls Try.prog 16 #[v, u] w fun e w' => e = .returned (.bool (decide (l = m))) ∧ Below w.heap.size w w' := by
  have HE := Lib.hid (equal_any v u l m w hp hq)
  clear hp hq
  go_enter Try.func16, Try.ntmps16
  go_wp2_with fail
  refine HE.out.mono ?_
  rintro e w1 ⟨rfl, hb⟩
  have HB := Lib.hid hb
  clear hb
  go_wp2
  go_ret
  exact ⟨rfl, HB.out⟩
set_option maxRecDepth 100000 in
theorem clone_any (v : Value) (l : List MK) (w : World) (hp : MsAt w v l) (hl : l.length ≤ 100000) :
    Calls Try.prog 39 #[v] w fun e w' => ∃ v', e = .returned v' ∧ OwnMs w.heap.size w' v' l ∧ Below w.heap.size w w' := by
  have HP := Lib.hid hp
  have HONE := Lib.hid (ms_oneCell l)
  obtain ⟨ad, cap, rfl, -, hlc, hn⟩ := hp.form
  clear hp
  cases ad with
  | none =>
    have := hn rfl
    obtain rfl : l = [] := List.eq_nil_of_length_eq_zero (by omega)
    obtain rfl : cap = 0 := this
    have k := fun wx => Lib.run_eql_slice_nil (P := Try.prog) wx 22 26 none 0 0 0 0 Try.underlying22
    go_enter Try.func39, Try.ntmps39
    go_wp2
    go_ret
    exact ⟨_, rfl, World.ownsRow_nil _ _ _ _, Below.refl _ _⟩
  | some ad =>
    have k := fun wx => Lib.run_eql_slice_nil (P := Try.prog) wx 22 26 (some ad) l.length cap 0 0 Try.underlying22
    have BA := Go.Joins.below_alloc1 w (.cells #[] 26)
    have HO := Lib.hid (show OwnMs w.heap.size (w.alloc (.cells #[] 26)) (.slice (some ⟨w.heap.size, 0, none⟩) 0 0) [] ∧ MsAt (w.alloc (.cells #[] 26)) (.slice (some ad) l.length cap) l ∧ Below w.heap.size w (w.alloc (.cells #[] 26)) from ⟨OwnRow.made w, HP.out.below BA, BA⟩)
    clear hlc hn
    go_enter Try.func39, Try.ntmps39
    go_wp2_with (at_builtin; refine wpList_append_rows rfl _ _ 22 26 3 24 _ MK.cells rfl Try.underlying22 info26 rfl (by decide) (by decide) (fun _ => rfl) w.heap.size _ _ [] l rfl rfl HO.out.1 HO.out.2.1 HONE.out (by simp; omega) HO.out.2.2.size ?_; intro v2 w2 ho2 hg2; have HO2 := Lib.hid ho2; have B2 := Lib.hid (HO.out.2.2.grown hg2 HO.out.2.2.size (fun k hk => (OwnRow.lt HO.out.1 k hk).1)); clear ho2 hg2)
    go_ret
    exact ⟨_, rfl, HO2.out, B2.out⟩
/-- the cells vs over c from o on -/
def over (c : Array Value) (o : Nat) : List Value → Array Value
  | [] => c
  | v :: r => over (c.setIfInBounds o v) (o + 1) r
theorem over_size : ∀ (vs : List Value) (c : Array Value) (o : Nat), (over c o vs).size = c.size
  | [], _, _ => rfl
  | v :: r, c, o => by rw [over, over_size r]; simp
theorem over_get : ∀ (vs : List Value) (c : Array Value) (o j : Nat), o + vs.length ≤ c.size → (over c o vs)[j]? = if o ≤ j ∧ j < o + vs.length then vs[j - o]? else c[j]?
  | [], c, o, j, _ => by rw [over, if_neg (by simp)]
  | v :: r, c, o, j, h => by
    simp only [List.length_cons] at h
    rw [over, over_get r _ (o + 1) j (by simp; omega)]
    by_cases h1 : o + 1 ≤ j ∧ j < o + 1 + r.length
    · rw [if_pos h1, if_pos (by simp; omega), show j - o = j - (o + 1) + 1 by omega]
      rfl
    · rw [if_neg h1]
      by_cases h2 : j = o
      · subst h2
        rw [if_pos (by simp), Array.getElem?_setIfInBounds]
        simp
        omega
      · rw [if_neg (by simp; omega), Array.getElem?_setIfInBounds, if_neg (by omega)]
theorem block_setCells (g : Nat) (t : TypeId) (fr : Nat × Nat) : ∀ (vs : List Value) (o : Nat) (c : Array Value) (w : World), w.heap[g]? = some (.cells c t fr) → (w.setCells g o vs).heap[g]? = some (.cells (over c o vs) t fr)
  | [], _, _, _, h => h
  | v :: r, o, c, w, h => by
    rw [World.setCells, over]
    exact block_setCells g t fr r (o + 1) _ _ (Go.Joins.block_setCell h v)
theorem chg_setCells {S : Nat → Prop} (g : Nat) : ∀ (vs : List Value) (o : Nat) (a w : World), Chg S a w → S g → Chg S a (w.setCells g o vs)
  | [], _, _, _, h, _ => h
  | v :: r, o, a, w, h, hg => by
    rw [World.setCells]
    exact chg_setCells g r (o + 1) a _ (h.setCell (p := ⟨g, o, none⟩) (.inl hg) v) hg
/-- of the first j those that are kept lie ahead, those from j on where they lay -/
def KeptAt (w : World) (g cap : Nat) (l : List MK) (j : Nat) (F : List MK) : Prop :=
  ∃ cur, w.heap[g]? = some (.cells cur 26 (0, 0)) ∧ cur.size = cap * 3 ∧ (∀ (t : Nat) x, F[t]? = some x → ∀ r, r < 3 → cur[t * 3 + r]? = x.cells[r]?) ∧ ∀ (t : Nat) x, j ≤ t → l[t]? = some x → ∀ r, r < 3 → cur[t * 3 + r]? = x.cells[r]?
theorem KeptAt.chg {w w' : World} {g cap : Nat} {l : List MK} {j : Nat} {F : List MK} (h : KeptAt w g cap l j F) (hb : w'.heap[g]? = w.heap[g]?) : KeptAt w' g cap l j F := by
  obtain ⟨cur, hg, h⟩ := h
  exact ⟨cur, hb.trans hg, h⟩
theorem KeptAt.skip {w : World} {g cap : Nat} {l : List MK} {j : Nat} {F : List MK} (h : KeptAt w g cap l j F) : KeptAt w g cap l (j + 1) F := by
  obtain ⟨cur, hg, hs, h1, h2⟩ := h
  exact ⟨cur, hg, hs, h1, fun t x ht => h2 t x (by omega)⟩
theorem KeptAt.keep {w : World} {g cap : Nat} {l : List MK} {j : Nat} {F : List MK} (h : KeptAt w g cap l j F) (x : MK) (hj : F.length ≤ j) (hc : j < cap) : KeptAt (put3 w g (F.length * 3) x) g cap l (j + 1) (F ++ [x]) := by
  obtain ⟨cur, hg, hs, h1, h2⟩ := h
  have hx3 : x.cells.length = 3 := rfl
  have hfit : F.length * 3 + x.cells.length ≤ cur.size := by rw [hs]; omega
  refine ⟨over cur (F.length * 3) x.cells, by rw [put3_cells]; exact block_setCells g 26 (0, 0) _ _ _ _ hg, by rw [over_size, hs], fun t y ht r hr => ?_, fun t y ht hy r hr => ?_⟩
  · rw [over_get _ _ _ _ hfit]
    rcases Nat.lt_or_ge t F.length with h | h
    · rw [if_neg (by omega)]
      rw [List.getElem?_append_left h] at ht
      exact h1 t y ht r hr
    · have htl := (List.getElem?_eq_some_iff.1 ht).1
      simp only [List.length_append, List.length_cons, List.length_nil] at htl
      obtain rfl : t = F.length := by omega
      rw [List.getElem?_append_right (Nat.le_refl _), Nat.sub_self] at ht
      simp at ht
      subst ht
      rw [if_pos (by omega), show F.length * 3 + r - F.length * 3 = r by omega]
  · rw [over_get _ _ _ _ hfit]
    rw [if_neg (by omega)]
    exact h2 t y (by omega) hy r hr
theorem KeptAt.done {w : World} {g cap base : Nat} {l : List MK} {j : Nat} {F : List MK} (h : KeptAt w g cap l j F) (zs : List Value) (hF : F.length * 3 + zs.length ≤ cap * 3) (hcap : cap ≤ maxLen) (hb : base ≤ g) :
    OwnMs base (w.setCells g (F.length * 3) zs) (.slice (some ⟨g, 0, none⟩) F.length cap) F := by
  obtain ⟨cur, hg, hs, h1, _⟩ := h
  refine ⟨flat_len (k := 3) (enc := MK.cells) (fun _ => rfl) F, .inr ⟨g, cap, _, rfl, hb, block_setCells g 26 (0, 0) _ _ _ _ hg, by omega, hcap, by rw [over_size, hs], ?_⟩⟩
  have hl := flat_len (k := 3) (enc := MK.cells) (fun _ => rfl) F
  apply List.ext_getElem?
  intro n
  by_cases hn : n < F.length * 3
  · rw [List.getElem?_take_of_lt hn, Array.getElem?_toList, over_get _ _ _ _ (by rw [hs]; exact hF), if_neg (by omega)]
    have hd : n / 3 * 3 + n % 3 = n := by omega
    have hx := List.getElem?_eq_getElem (show n / 3 < F.length by omega)
    rw [← hd, flat_at (k := 3) (enc := MK.cells) (fun _ => rfl) _ _ _ (by omega), hx]
    exact h1 _ _ hx _ (by omega)
  · rw [List.getElem?_eq_none (by simp; omega), List.getElem?_eq_none (by rw [hl]; omega)]
theorem KeptAt.start {w : World} {g cap : Nat} {l : List MK} {cur : Array Value} (hg : w.heap[g]? = some (.cells cur 26 (0, 0))) (hcs : cur.size = cap * 3) (htake : cur.toList.take (l.length * 3) = l.flatMap MK.cells) (k : Nat) : KeptAt w g cap l (k + 1) (l.take k) := by
  have hcell : ∀ (t : Nat) x, l[t]? = some x → ∀ r, r < 3 → cur[t * 3 + r]? = x.cells[r]? := fun t x hx r hr => by
    have htl := (List.getElem?_eq_some_iff.1 hx).1
    have e : (cur.toList.take (l.length * 3))[t * 3 + r]? = (l.flatMap MK.cells)[t * 3 + r]? := by rw [htake]
    rw [List.getElem?_take_of_lt (by omega), Array.getElem?_toList, flat_at (k := 3) (enc := MK.cells) (fun _ => rfl) _ _ _ hr, hx] at e
    exact e
  exact ⟨cur, hg, hcs, fun t x hx => hcell t x (by rw [List.getElem?_take] at hx; split at hx; exact hx; cases hx), fun t x _ hx => hcell t x hx⟩
set_option maxHeartbeats 400000 in
theorem index_any (v : Value) (l : List MK) (f : Nat) (c : Value) (p : MK → Bool) (w : World) (hp : MsAt w v l) (ha : AsksAt w f c p) :
    Calls Try.prog 51 #[v, .func (.func f) #[] #[c]] w fun e w' => ∃ z : Int, e = .returned (.int .i64 z) ∧ ((z = -1 ∧ ∀ q ∈ l, p q = false) ∨ ∃ k : Nat, z = k ∧ (∃ q, l[k]? = some q ∧ p q = true) ∧ ∀ q ∈ l.take k, p q = false) ∧ Below w.heap.size w w' := by
  have HP := Lib.hid hp
  have HA := Lib.hid ha
  have hen := ha.enters
  obtain ⟨a, cap, rfl, hlen, -⟩ := hp
  obtain ⟨L, hL⟩ : ∃ L, l.length = L := ⟨_, rfl⟩
  rw [hL] at hlen HP ⊢
  have HL := Lib.hid hL
  clear hL ha
  go_enter Try.func51, Try.ntmps51
  go_wp2
  go_loopw [8] (fun i wr => ∃ k : Nat, k ≤ L ∧ i = .int .i64 (k : Nat) ∧ Hid (Below w.heap.size w wr ∧ ∀ q ∈ l.take k, p q = false)) (fun i _ => L - (intOf i).toNat)
  case atStart => exact ⟨0, Nat.zero_le _, rfl, Below.refl _ _, by simp⟩
  case round =>
    obtain ⟨k, hk, rfl, HR⟩ := hrel
    by_cases hlt : k < L
    · have hltz : (k : Int) < (L : Int) := by omega
      obtain ⟨x, hx⟩ : ∃ x, l[k]? = some x := ⟨_, List.getElem?_eq_getElem (by rw [HL.out]; exact hlt)⟩
      obtain ⟨b, off, rfl, hb, hc⟩ := MsAt.cell (HP.out.below HR.out.1) hx
      obtain ⟨c0, c1, c2⟩ := hc wr (Below.refl _ _)
      have HN := Lib.hid (HA.out.calls wr HR.out.1 x (HP.out.ok x (List.mem_of_getElem? hx)))
      have HX := Lib.hid hx
      clear hc hx hb
      cases hz : p x
      · rw [hz] at HN
        have HZ := Lib.hid hz
        clear hz
        go_wp2_with fail
        refine HN.out.mono ?_
        rintro e w3 ⟨rfl, hb3⟩
        have HB := Lib.hid (HR.out.1.trans (hb3.mono HR.out.1.size))
        clear hb3
        go_wp2
        go_roundw
        case rel =>
          refine ⟨k + 1, by omega, by go_num, HB.out, fun q hq => ?_⟩
          rw [take_snoc HX.out] at hq
          rcases List.mem_append.1 hq with hq | hq
          · exact HR.out.2 q hq
          · rw [List.mem_singleton] at hq; rw [hq]; exact HZ.out
        case measure => simp [intOf]; omega
      · rw [hz] at HN
        have HZ := Lib.hid hz
        clear hz
        go_wp2_with fail
        refine HN.out.mono ?_
        rintro e w3 ⟨rfl, hb3⟩
        have HB := Lib.hid (HR.out.1.trans (hb3.mono HR.out.1.size))
        clear hb3
        go_wp2
        go_ret
        exact ⟨_, rfl, .inr ⟨k, rfl, ⟨x, HX.out, HZ.out⟩, HR.out.2⟩, HB.out⟩
    · obtain rfl : k = L := by omega
      have HB := Lib.hid HR.out
      clear HR
      go_wp2
      go_ret
      exact ⟨_, rfl, .inl ⟨rfl, fun q hq => HB.out.2 q (by rw [take_all HL.out]; exact hq)⟩, HB.out.1⟩
theorem KeptAt.cell {w : World} {g cap : Nat} {l : List MK} {j : Nat} {F : List MK} (h : KeptAt w g cap l j F) {x : MK} (hx : l[j]? = some x) (r : Nat) (hr : r < 3) : w.cell? ⟨g, j * 3 + r, none⟩ = x.cells[r]? := by
  obtain ⟨cur, hg, _, _, h2⟩ := h
  rw [Go.Joins.cell_of_block hg]
  exact h2 j x (Nat.le_refl _) hx r hr
theorem KeptAt.has {w : World} {g cap : Nat} {l : List MK} {j : Nat} {F : List MK} (h : KeptAt w g cap l j F) (n : Nat) (hn : n < cap * 3) : ∃ e, w.cell? ⟨g, n, none⟩ = some e := by
  obtain ⟨cur, hg, hs, _⟩ := h
  exact ⟨_, by rw [Go.Joins.cell_of_block hg]; exact Array.getElem?_eq_getElem (by omega)⟩
theorem KeptAt.fz {w : World} {g cap : Nat} {l : List MK} {j : Nat} {F : List MK} (h : KeptAt w g cap l j F) (n : Nat) : w.frozen? ⟨g, n, none⟩ = false := by
  obtain ⟨cur, hg, _⟩ := h
  simp [World.frozen?, hg]
def zPl : List Value := [.int .i64 0, .int .u64 0, .int .u64 0]
def zRows (n : Nat) : List Value := (Builtin.zeroCells zPl.toArray n).toList
theorem zRows_len (n : Nat) : (zRows n).length = n * 3 := by
  unfold zRows
  rw [Array.length_toList, size_zeroCells]
  rfl
theorem run_clear_ps (w : World) (ty : TypeId) (b o n c : Nat) (hn : 0 < n) (hc : ∀ j, j < n * 3 → (w.cell? ⟨b, o + j, none⟩).isSome = true ∧ w.frozen? ⟨b, o + j, none⟩ = false) :
    (Builtin.clear_ #[22] ty #[.slice (some ⟨b, o, none⟩) n c]).run Try.prog w = .ok (.tuple #[]) (w.setCells b o (zRows n)) := by
  have hone : ∀ v ∈ zRows n, v.oneCell' = true := by
    intro v hv
    unfold zRows Builtin.zeroCells at hv
    simp [zPl] at hv
    obtain ⟨a, _, rfl⟩ := hv
    have h2 := Nat.mod_lt a (show 0 < 3 by decide)
    generalize a % 3 = r at h2
    rcases (show r = 0 ∨ r = 1 ∨ r = 2 by omega) with rfl | rfl | rfl <;> rfl
  have hst := run_storeCells_cells (P := Try.prog) b o (zRows n) 0 w (fun j hj => by simpa using (hc j (by rwa [zRows_len] at hj)).1) (fun j hj => by simpa using (hc j (by rwa [zRows_len] at hj)).2) hone
  simp only [Nat.add_zero] at hst
  unfold zRows zPl at hst ⊢
  obtain ⟨m, rfl⟩ : ∃ m, n = m + 1 := ⟨n - 1, by omega⟩
  simp [Builtin.clear_, run_underlying Try.underlying22, Try.zeroValue26, Value.cells, hst]
/-- those that are not as asked -/
def rej (p : MK → Bool) (l : List MK) : List MK := l.filter fun q => !p q
theorem rej_app (p : MK → Bool) (l : List MK) (x : MK) : rej p (l ++ [x]) = if p x = true then rej p l else rej p l ++ [x] := by
  unfold rej
  rw [List.filter_append]
  cases hx : p x <;> simp [hx]
theorem rej_len (p : MK → Bool) (l : List MK) : (rej p l).length ≤ l.length := List.length_filter_le _ _
theorem rej_ok {p : MK → Bool} {l : List MK} (h : ∀ q ∈ l, q.ok) : ∀ q ∈ rej p l, q.ok := fun q hq => h q (List.mem_filter.1 hq).1
set_option maxRecDepth 100000 in
set_option maxHeartbeats 1000000 in
theorem delete_ps (base g cap : Nat) (l : List MK) (f : Nat) (c : Value) (p : MK → Bool) (wa w : World) (ho : OwnMs base w (.slice (some ⟨g, 0, none⟩) l.length cap) l) (hok : ∀ q ∈ l, q.ok) (hl : l.length ≤ 100000) (ha : AsksAt wa f c p) (hwa : Below wa.heap.size wa w) (hba : wa.heap.size ≤ base) :
    Calls Try.prog 38 #[.slice (some ⟨g, 0, none⟩) l.length cap, .func (.func f) #[] #[c]] w fun e w' => e = .returned (.slice (some ⟨g, 0, none⟩) (rej p l).length cap) ∧ OwnMs base w' (.slice (some ⟨g, 0, none⟩) (rej p l).length cap) (rej p l) ∧ Chg (fun k => k = g) w w' := by
  have HIX := Lib.hid (index_any _ l f c p w (OwnRow.at (fun _ => rfl) ho hok) (ha.below hwa))
  have HO := Lib.hid ho
  have HAK := Lib.hid ha
  have hen := ha.enters
  have HOK := Lib.hid hok
  rcases ho.2 with ⟨h0, _⟩ | ⟨g', cap', cur, hv, hbg, hg, hnc, hcm, hcs, htake⟩
  · cases h0
  · cases hv
    have hgl := (Array.getElem?_eq_some_iff.1 hg).1
    obtain ⟨L, hL⟩ : ∃ L, l.length = L := ⟨_, rfl⟩
    have HST := Lib.hid (fun k => KeptAt.start hg hcs htake k)
    rw [hL] at HIX hnc hl HO ⊢
    have HL := Lib.hid hL
    have HG := Lib.hid (And.intro hgl (And.intro hbg hcm))
    have HWA := Lib.hid (show ∀ wr, Chg (fun k => k = g) w wr → Below wa.heap.size wa wr from fun wr h => hwa.trans (h.below hwa.size (fun k hk => by rw [hk]; omega)))
    obtain ⟨A, hA⟩ : ∃ A, rej p l = A := ⟨_, rfl⟩
    rw [hA]
    have HA := Lib.hid hA
    clear hg hcs htake hL hok hA hgl hbg hcm ho ha hwa hba
    go_enter Try.func38, Try.ntmps38
    go_wp2_with fail
    refine HIX.out.mono ?_
    rintro e w1 ⟨z, rfl, hz, hb1⟩
    rcases hz with ⟨rfl, hall⟩ | ⟨k, rfl, hk, hpre⟩
    · have hAl : A = l := by rw [← HA.out]; exact List.filter_eq_self.2 fun q hq => by rw [hall q hq]; rfl
      have HE := Lib.hid (show A.length = L ∧ OwnMs base w1 (.slice (some ⟨g, 0, none⟩) L cap) A ∧ Chg (fun k => k = g) w w1 from ⟨by rw [hAl]; exact HL.out, by rw [hAl]; exact OwnRow.chg HO.out (Chg.of_below (S := fun _ => False) hb1 (Nat.le_refl _)) (fun _ _ h => h), Chg.of_below hb1 (Nat.le_refl _)⟩)
      clear hall hAl hb1
      go_wp2
      go_ret
      rw [HE.out.1]
      exact ⟨rfl, HE.out.2.1, HE.out.2.2⟩
    · obtain ⟨q, hq, hqn⟩ := hk
      have hkL := (List.getElem?_eq_some_iff.1 hq).1
      have hkL' : k < L := by rw [← HL.out]; exact hkL
      have hac : rej p (l.take (k + 1)) = l.take k := by
        rw [take_snoc hq, rej_app, if_pos hqn]
        exact List.filter_eq_self.2 fun q hq => by rw [hpre q hq]; rfl
      have HS0 := Lib.hid (show Chg (fun k => k = g) w w1 ∧ KeptAt w1 g cap l (k + 1) (rej p (l.take (k + 1))) ∧ (rej p (l.take (k + 1))).length = k from
        ⟨Chg.of_below hb1 (Nat.le_refl _), by rw [hac]; exact (HST.out k).chg (hb1.block g HG.out.1), by rw [hac, List.length_take]; omega⟩)
      have hz1 : ((k : Int) == -1) = false := by simp
      clear hq hqn hac hpre hb1 HIX HST hkL
      go_wp2
      go_loopw [5, 6] (fun s5 s6 wr => ∃ j : Nat, j ≤ L ∧ s6 = .int .i64 (j : Nat) ∧ s5 = .int .i64 ((rej p (l.take j)).length : Nat) ∧ Hid (Chg (fun k => k = g) w wr ∧ KeptAt wr g cap l j (rej p (l.take j)) ∧ (rej p (l.take j)).length < j)) (fun _ s6 _ => L - (intOf s6).toNat)
      case atStart => exact ⟨k + 1, by omega, by go_num, by rw [HS0.out.2.2], HS0.out.1, HS0.out.2.1, by rw [HS0.out.2.2]; omega⟩
      case round =>
        obtain ⟨j, hj, rfl, rfl, HR⟩ := hrel
        obtain ⟨F, hF⟩ : ∃ F, rej p (l.take j) = F := ⟨_, rfl⟩
        rw [hF] at HR ⊢
        have HFF := Lib.hid hF
        obtain ⟨i, hi⟩ : ∃ i, F.length = i := ⟨_, rfl⟩
        have HI := Lib.hid hi
        rw [hi]
        have hij : i < j := by rw [← hi]; exact HR.out.2.2
        clear hF hi
        by_cases hlt : j < L
        · have hltz : (j : Int) < (L : Int) := by omega
          obtain ⟨x, hx⟩ : ∃ x, l[j]? = some x := ⟨_, List.getElem?_eq_getElem (by rw [HL.out]; exact hlt)⟩
          have hka := HR.out.2.1
          have c0 : wr.cell? ⟨g, j * 3, none⟩ = some (.int .i64 x.p) := hka.cell hx 0 (by omega)
          have c1 : wr.cell? ⟨g, j * 3 + 1, none⟩ = some (.int .u64 x.s) := hka.cell hx 1 (by omega)
          have c2 : wr.cell? ⟨g, j * 3 + 2, none⟩ = some (.int .u64 x.o) := hka.cell hx 2 (by omega)
          have hgw : g < wr.heap.size := by have := HR.out.1.size; have := HG.out.1; omega
          have hBW : Below wr.heap.size wr (wr.alloc (.cells #[.int .i64 x.p, .int .u64 x.s, .int .u64 x.o] 26)) := Go.Joins.below_alloc1 wr _
          have HN := Lib.hid (HAK.out.calls (wr.alloc (.cells #[.int .i64 x.p, .int .u64 x.s, .int .u64 x.o] 26)) (HWA.out _ (HR.out.1.alloc _)) x (HOK.out x (List.mem_of_getElem? hx)))
          have HW3 := Lib.hid (show ∀ w3, Below (wr.alloc (.cells #[.int .i64 x.p, .int .u64 x.s, .int .u64 x.o] 26)).heap.size (wr.alloc (.cells #[.int .i64 x.p, .int .u64 x.s, .int .u64 x.o] 26)) w3 → Chg (fun k => k = g) w w3 ∧ KeptAt w3 g cap l j F ∧ w3.cell? ⟨wr.heap.size, 0, none⟩ = some (.int .i64 x.p) ∧ w3.cell? ⟨wr.heap.size, 1, none⟩ = some (.int .u64 x.s) ∧ w3.cell? ⟨wr.heap.size, 2, none⟩ = some (.int .u64 x.o) from fun w3 hb => by
            have hb' : Below wr.heap.size wr w3 := hBW.trans (hb.mono hBW.size)
            have hlt' : wr.heap.size < (wr.alloc (.cells #[.int .i64 x.p, .int .u64 x.s, .int .u64 x.o] 26)).heap.size := by rw [World.size_alloc]; omega
            refine ⟨HR.out.1.trans (Chg.of_below hb' (Nat.le_refl _)), hka.chg (hb'.block g hgw), (hb.cell (p := ⟨wr.heap.size, 0, none⟩) hlt').trans ?_, (hb.cell (p := ⟨wr.heap.size, 1, none⟩) hlt').trans ?_, (hb.cell (p := ⟨wr.heap.size, 2, none⟩) hlt').trans ?_⟩
            · rw [World.cell?_alloc_new]; rfl
            · rw [World.cell?_alloc_new]; rfl
            · rw [World.cell?_alloc_new]; rfl)
          have hst : rej p (l.take (j + 1)) = if p x = true then F else F ++ [x] := by
            rw [take_snoc hx, rej_app, HFF.out]
          have HCAP := Lib.hid hnc
          clear hka hx HR hgw hBW
          cases hz : p x
          · rw [hz] at HN
            have HT := Lib.hid (show rej p (l.take (j + 1)) = F ++ [x] by rw [hst, hz]; simp)
            clear hz hst
            go_wp2_with fail
            refine HN.out.mono ?_
            rintro e w3 ⟨rfl, hb3⟩
            obtain ⟨k1, k2, x0, x1, x2⟩ := HW3.out w3 hb3
            have kf := k2.fz
            obtain ⟨e0, d0⟩ := k2.has (i * 3) (by omega)
            obtain ⟨e1, d1⟩ := k2.has (i * 3 + 1) (by omega)
            obtain ⟨e2, d2⟩ := k2.has (i * 3 + 2) (by omega)
            have HKX := Lib.hid (show Chg (fun k => k = g) w (put3 w3 g (i * 3) x) ∧ KeptAt (put3 w3 g (i * 3) x) g cap l (j + 1) (F ++ [x]) from
              ⟨put3_chg k1 g (i * 3) x (.inl rfl), by have := k2.keep x (by rw [HI.out]; omega) (by omega); rwa [HI.out] at this⟩)
            clear k1 k2 hb3 c0 c1 c2
            go_wp2
            go_roundw
            case rel => exact ⟨j + 1, by omega, by go_num, by rw [HT.out, List.length_append, HI.out]; go_num, HKX.out.1, by rw [HT.out]; exact HKX.out.2, by rw [HT.out, List.length_append, HI.out]; simp; omega⟩
            case measure => simp [intOf]; omega
          · rw [hz] at HN
            have HT := Lib.hid (show rej p (l.take (j + 1)) = F by rw [hst, hz]; simp)
            clear hz hst
            go_wp2_with fail
            refine HN.out.mono ?_
            rintro e w3 ⟨rfl, hb3⟩
            have HK := Lib.hid (HW3.out w3 hb3)
            clear hb3
            go_wp2
            go_roundw
            case rel => exact ⟨j + 1, by omega, by go_num, by rw [HT.out, HI.out], HK.out.1, by rw [HT.out]; exact HK.out.2.1.skip, by rw [HT.out, HI.out]; omega⟩
            case measure => simp [intOf]; omega
        · obtain rfl : j = L := by omega
          have hFA : F = A := by rw [← HFF.out, ← HA.out, take_all HL.out]
          have hk2 := HR.out.2.1
          have k := fun ty c => run_clear_ps wr ty g (i * 3) (j - i) c (by omega) (fun n hn => ⟨by obtain ⟨e, he⟩ := hk2.has (i * 3 + n) (by omega); rw [he]; rfl, hk2.fz _⟩)
          have HE := Lib.hid (show A.length = i ∧ OwnMs base (wr.setCells g (i * 3) (zRows (j - i))) (.slice (some ⟨g, 0, none⟩) i cap) A ∧ Chg (fun k => k = g) w (wr.setCells g (i * 3) (zRows (j - i))) from by
            have h := hk2.done (base := base) (zRows (j - i)) (by rw [HI.out, zRows_len]; omega) HG.out.2.2 HG.out.2.1
            rw [HI.out] at h
            exact ⟨by rw [← hFA]; exact HI.out, by rw [← hFA]; exact h, chg_setCells g _ _ _ _ HR.out.1 rfl⟩)
          clear hFA hk2 HR hlt
          go_wp2
          go_ret
          rw [HE.out.1]
          exact ⟨rfl, HE.out.2.1, HE.out.2.2⟩
theorem delete_none (f : Nat) (c : Value) (p : MK → Bool) (w : World) (ha : AsksAt w f c p) :
    Calls Try.prog 38 #[.slice none 0 0, .func (.func f) #[] #[c]] w fun e w' => e = .returned (.slice none 0 0) ∧ Below w.heap.size w w' := by
  have HIX := Lib.hid (index_any (.slice none 0 0) [] f c p w ⟨none, 0, rfl, by simp, by simp, fun _ => rfl, fun h => absurd h (by simp)⟩ ha)
  go_enter Try.func38, Try.ntmps38
  go_wp2_with fail
  refine HIX.out.mono ?_
  rintro e w1 ⟨z, rfl, hz, hb1⟩
  obtain rfl : z = -1 := by
    rcases hz with ⟨h, _⟩ | ⟨k, _, ⟨q, hq, _⟩, _⟩
    · exact h
    · simp at hq
  have HB := Lib.hid hb1
  clear hb1 hz HIX
  go_wp2
  go_ret
  exact ⟨rfl, HB.out⟩
theorem BoxI (w : World) (n : Int) : (w.alloc (.cells #[.int .u64 n] 23)).cell? ⟨w.heap.size, 0, none⟩ = some (.int .u64 n) := by rw [World.cell?_alloc_new]; rfl
/-- what of a row stands below an offset -/
def cutM (a : Int) (l : List MK) : List MK := rej (fun m => decide (a ≤ m.o)) l
theorem cut_any (v : Value) (l : List MK) (a : Int) (w : World) (hp : MsAt w v l) (hl : l.length ≤ 100000) :
    Calls Try.prog 19 #[v, .int .u64 a] w fun e w' => ∃ v', e = .returned v' ∧ OwnMs w.heap.size w' v' (cutM a l) ∧ Below w.heap.size w w' := by
  obtain ⟨W, hW⟩ : ∃ W, W = w.alloc (.cells #[.int .u64 a] 23) := ⟨_, rfl⟩
  have hB : Below w.heap.size w W := by rw [hW]; exact Go.Joins.below_alloc1 w _
  have HA := Lib.hid (show AsksAt W 40 (.pointer (some ⟨w.heap.size, 0, none⟩)) fun m => decide (a ≤ m.o) from asks_from a _ W (by rw [hW]; exact BoxI w a))
  have HC := Lib.hid (clone_any v l W (hp.below hB) hl)
  have HOK := Lib.hid hp.ok
  have HB := Lib.hid hB
  clear hp hB
  go_enter Try.func19, Try.ntmps19
  go_upto_region 1 with fail
  rw [← hW]
  clear hW
  go_wp2_with fail
  refine HC.out.mono ?_
  rintro e w1 ⟨v1, rfl, ho, hb⟩
  have hd : Calls Try.prog 38 #[v1, .func (.func 40) #[] #[.pointer (some ⟨w.heap.size, 0, none⟩)]] w1 fun e w' => ∃ v', e = .returned v' ∧ OwnMs w.heap.size w' v' (cutM a l) ∧ Below w.heap.size w w' := by
    have hbw := HB.out.trans (hb.mono HB.out.size)
    rcases ho.2 with ⟨rfl, h0⟩ | ⟨g, cap, cur, rfl, hbg, r⟩
    · obtain rfl : l = [] := List.eq_nil_of_length_eq_zero h0
      exact (delete_none 40 _ _ w1 (HA.out.below hb)).mono fun e w2 ⟨he, h2⟩ => ⟨_, he, World.ownsRow_nil _ _ _ _, hbw.trans (h2.mono hbw.size)⟩
    · exact (delete_ps W.heap.size g cap l 40 _ _ W w1 ho HOK.out hl HA.out hb (Nat.le_refl _)).mono fun e w2 ⟨he, h2, h3⟩ => ⟨_, he, h2.base_le HB.out.size, hbw.trans (h3.below hbw.size (fun k hk => by rw [hk]; exact Nat.le_trans HB.out.size hbg))⟩
  have HD := Lib.hid hd
  clear hd ho hb HC
  go_wp2_with fail
  refine HD.out.mono ?_
  rintro e w2 ⟨v2, rfl, ho2, hb2⟩
  have H2 := Lib.hid (And.intro ho2 hb2)
  clear ho2 hb2
  go_wp2
  go_ret
  exact ⟨_, rfl, H2.out⟩
end Go.Proofs.Ytclchlcfcnlmhaa
