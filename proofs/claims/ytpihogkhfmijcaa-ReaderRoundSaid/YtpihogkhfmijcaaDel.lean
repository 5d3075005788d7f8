/- slices.Clone, IndexFunc, ContainsFunc, DeleteFunc of places; without. -/
import Derived.Test.YtpihogkhfmijcaaBoxes
import Derived.Laws.IdiomCopy
namespace Go.Proofs.Ytpihogkhfmijcaa
open Go.RowKit Go.Maps Go.Shelf
set_option maxRecDepth 100000 in
theorem clone_any (v : Value) (l : List PL) (w : World) (hp : PsAt w v l) (hl : l.length ≤ 100000) :
    Calls Try.prog 53 #[v] w fun e w' => ∃ v', e = .returned v' ∧ OwnPs w.heap.size w' v' l ∧ Below w.heap.size w w' := by
  have HP := Lib.hid hp
  have HONE := Lib.hid (ps_oneCell l)
  obtain ⟨ad, cap, rfl, -, hlc, hn⟩ := hp.form
  clear hp
  cases ad with
  | none =>
    have := hn rfl
    obtain rfl : l = [] := List.eq_nil_of_length_eq_zero (by omega)
    obtain rfl : cap = 0 := this
    have k := fun wx => Lib.run_eql_slice_nil (P := Try.prog) wx 30 38 none 0 0 0 0 Try.underlying30
    go_enter Try.func53, Try.ntmps53
    go_wp2
    go_ret
    exact ⟨_, rfl, World.ownsRow_nil _ _ _ _, Below.refl _ _⟩
  | some ad =>
    have k := fun wx => Lib.run_eql_slice_nil (P := Try.prog) wx 30 38 (some ad) l.length cap 0 0 Try.underlying30
    have BA := Go.Joins.below_alloc1 w (.cells #[] 38)
    have HO := Lib.hid (show OwnPs w.heap.size (w.alloc (.cells #[] 38)) (.slice (some ⟨w.heap.size, 0, none⟩) 0 0) [] ∧ PsAt (w.alloc (.cells #[] 38)) (.slice (some ad) l.length cap) l ∧ Below w.heap.size w (w.alloc (.cells #[] 38)) from ⟨OwnRow.made w, HP.out.below BA, BA⟩)
    clear hlc hn
    go_enter Try.func53, Try.ntmps53
    go_wp2_with (at_builtin; refine wpList_append_rows rfl _ _ 30 38 2 16 _ PL.cells rfl Try.underlying30 info38 rfl (by decide) (by decide) (fun _ => rfl) w.heap.size _ _ [] l rfl rfl HO.out.1 HO.out.2.1 HONE.out (by simp; omega) HO.out.2.2.size ?_; intro v2 w2 ho2 hg2; have HO2 := Lib.hid ho2; have B2 := Lib.hid (HO.out.2.2.grown hg2 HO.out.2.2.size (fun k hk => (OwnRow.lt HO.out.1 k hk).1)); clear ho2 hg2)
    go_ret
    exact ⟨_, rfl, HO2.out, B2.out⟩
/-- the cells vs over c from o on -/
def over (c : Array Value) (o : Nat) : List Value → Array Value
  | [] => c
  | v :: r => over (c.setIfInBounds o v) (o + 1) r
theorem over_size : ∀ (vs : List Value) (c : Array Value) (o : Nat), (over c o vs).size = c.size
  | [], _, _ => rfl
  | v :: r, c, o => by rw [over, over_size r]; simp
theorem over_get : ∀ (vs : List Value) (c : Array Value) (o j : Nat), o + vs.length ≤ c.size → (over c o vs)[j]? = if o ≤ j ∧ j < o + vs.length then vs[j - o]? else c[j]?
  | [], c, o, j, _ => by rw [over, if_neg (by simp)]
  | v :: r, c, o, j, h => by
    simp only [List.length_cons] at h
    rw [over, over_get r _ (o + 1) j (by simp; omega)]
    by_cases h1 : o + 1 ≤ j ∧ j < o + 1 + r.length
    · rw [if_pos h1, if_pos (by simp; omega), show j - o = j - (o + 1) + 1 by omega]
      rfl
    · rw [if_neg h1]
      by_cases h2 : j = o
      · subst h2
        rw [if_pos (by simp), Array.getElem?_setIfInBounds]
        simp
        omega
      · rw [if_neg (by simp; omega), Array.getElem?_setIfInBounds, if_neg (by omega)]
theorem block_setCells (g : Nat) (t : TypeId) (fr : Nat × Nat) : ∀ (vs : List Value) (o : Nat) (c : Array Value) (w : World), w.heap[g]? = some (.cells c t fr) → (w.setCells g o vs).heap[g]? = some (.cells (over c o vs) t fr)
  | [], _, _, _, h => h
  | v :: r, o, c, w, h => by
    rw [World.setCells, over]
    exact block_setCells g t fr r (o + 1) _ _ (Go.Joins.block_setCell h v)
theorem chg_setCells {S : Nat → Prop} (g : Nat) : ∀ (vs : List Value) (o : Nat) (a w : World), Chg S a w → S g → Chg S a (w.setCells g o vs)
  | [], _, _, _, h, _ => h
  | v :: r, o, a, w, h, hg => by
    rw [World.setCells]
    exact chg_setCells g r (o + 1) a _ (h.setCell (p := ⟨g, o, none⟩) (.inl hg) v) hg
theorem put2_cells (w : World) (g o : Nat) (q : PL) : put2 w g o q = w.setCells g o q.cells := rfl
/-- of the first j those that are kept lie ahead, those from j on where they lay -/
def KeptAt (w : World) (g cap : Nat) (l : List PL) (j : Nat) (F : List PL) : Prop :=
  ∃ cur, w.heap[g]? = some (.cells cur 38 (0, 0)) ∧ cur.size = cap * 2 ∧ (∀ (t : Nat) x, F[t]? = some x → ∀ r, r < 2 → cur[t * 2 + r]? = x.cells[r]?) ∧ ∀ (t : Nat) x, j ≤ t → l[t]? = some x → ∀ r, r < 2 → cur[t * 2 + r]? = x.cells[r]?
theorem KeptAt.chg {w w' : World} {g cap : Nat} {l : List PL} {j : Nat} {F : List PL} (h : KeptAt w g cap l j F) (hb : w'.heap[g]? = w.heap[g]?) : KeptAt w' g cap l j F := by
  obtain ⟨cur, hg, h⟩ := h
  exact ⟨cur, hb.trans hg, h⟩
theorem KeptAt.skip {w : World} {g cap : Nat} {l : List PL} {j : Nat} {F : List PL} (h : KeptAt w g cap l j F) : KeptAt w g cap l (j + 1) F := by
  obtain ⟨cur, hg, hs, h1, h2⟩ := h
  exact ⟨cur, hg, hs, h1, fun t x ht => h2 t x (by omega)⟩
theorem KeptAt.keep {w : World} {g cap : Nat} {l : List PL} {j : Nat} {F : List PL} (h : KeptAt w g cap l j F) (x : PL) (hj : F.length ≤ j) (hc : j < cap) : KeptAt (put2 w g (F.length * 2) x) g cap l (j + 1) (F ++ [x]) := by
  obtain ⟨cur, hg, hs, h1, h2⟩ := h
  have hx2 : x.cells.length = 2 := rfl
  have hfit : F.length * 2 + x.cells.length ≤ cur.size := by rw [hs]; omega
  refine ⟨over cur (F.length * 2) x.cells, by rw [put2_cells]; exact block_setCells g 38 (0, 0) _ _ _ _ hg, by rw [over_size, hs], fun t y ht r hr => ?_, fun t y ht hy r hr => ?_⟩
  · rw [over_get _ _ _ _ hfit]
    rcases Nat.lt_or_ge t F.length with h | h
    · rw [if_neg (by omega)]
      rw [List.getElem?_append_left h] at ht
      exact h1 t y ht r hr
    · have htl := (List.getElem?_eq_some_iff.1 ht).1
      simp only [List.length_append, List.length_cons, List.length_nil] at htl
      obtain rfl : t = F.length := by omega
      rw [List.getElem?_append_right (Nat.le_refl _), Nat.sub_self] at ht
      simp at ht
      subst ht
      rw [if_pos (by omega), show F.length * 2 + r - F.length * 2 = r by omega]
  · rw [over_get _ _ _ _ hfit]
    rw [if_neg (by omega)]
    exact h2 t y (by omega) hy r hr
theorem KeptAt.done {w : World} {g cap base : Nat} {l : List PL} {j : Nat} {F : List PL} (h : KeptAt w g cap l j F) (zs : List Value) (hF : F.length * 2 + zs.length ≤ cap * 2) (hcap : cap ≤ maxLen) (hb : base ≤ g) :
    OwnPs base (w.setCells g (F.length * 2) zs) (.slice (some ⟨g, 0, none⟩) F.length cap) F := by
  obtain ⟨cur, hg, hs, h1, _⟩ := h
  refine ⟨flat_len (k := 2) (enc := PL.cells) (fun _ => rfl) F, .inr ⟨g, cap, _, rfl, hb, block_setCells g 38 (0, 0) _ _ _ _ hg, by omega, hcap, by rw [over_size, hs], ?_⟩⟩
  have hl := flat_len (k := 2) (enc := PL.cells) (fun _ => rfl) F
  apply List.ext_getElem?
  intro n
  by_cases hn : n < F.length * 2
  · rw [List.getElem?_take_of_lt hn, Array.getElem?_toList, over_get _ _ _ _ (by rw [hs]; exact hF), if_neg (by omega)]
    have hd : n / 2 * 2 + n % 2 = n := by omega
    have hx := List.getElem?_eq_getElem (show n / 2 < F.length by omega)
    rw [← hd, flat_at (k := 2) (enc := PL.cells) (fun _ => rfl) _ _ _ (by omega), hx]
    exact h1 _ _ hx _ (by omega)
  · rw [List.getElem?_eq_none (by simp; omega), List.getElem?_eq_none (by rw [hl]; omega)]
theorem KeptAt.start {w : World} {g cap : Nat} {l : List PL} {cur : Array Value} (hg : w.heap[g]? = some (.cells cur 38 (0, 0))) (hcs : cur.size = cap * 2) (htake : cur.toList.take (l.length * 2) = l.flatMap PL.cells) (k : Nat) : KeptAt w g cap l (k + 1) (l.take k) := by
  have hcell : ∀ (t : Nat) x, l[t]? = some x → ∀ r, r < 2 → cur[t * 2 + r]? = x.cells[r]? := fun t x hx r hr => by
    have htl := (List.getElem?_eq_some_iff.1 hx).1
    have e : (cur.toList.take (l.length * 2))[t * 2 + r]? = (l.flatMap PL.cells)[t * 2 + r]? := by rw [htake]
    rw [List.getElem?_take_of_lt (by omega), Array.getElem?_toList, flat_at (k := 2) (enc := PL.cells) (fun _ => rfl) _ _ _ hr, hx] at e
    exact e
  exact ⟨cur, hg, hcs, fun t x hx => hcell t x (by rw [List.getElem?_take] at hx; split at hx; exact hx; cases hx), fun t x _ hx => hcell t x hx⟩
set_option maxHeartbeats 400000 in
theorem index_any (v : Value) (l : List PL) (f : Nat) (c : Value) (p : PL → Bool) (w : World) (hp : PsAt w v l) (ha : AsksAt w f c p) :
    Calls Try.prog 73 #[v, .func (.func f) #[] #[c]] w fun e w' => ∃ z : Int, e = .returned (.int .i64 z) ∧ ((z = -1 ∧ ∀ q ∈ l, p q = false) ∨ ∃ k : Nat, z = k ∧ (∃ q, l[k]? = some q ∧ p q = true) ∧ ∀ q ∈ l.take k, p q = false) ∧ Below w.heap.size w w' := by
  have HP := Lib.hid hp
  have HA := Lib.hid ha
  have hen := ha.enters
  obtain ⟨a, cap, rfl, hlen, -⟩ := hp
  obtain ⟨L, hL⟩ : ∃ L, l.length = L := ⟨_, rfl⟩
  rw [hL] at hlen HP ⊢
  have HL := Lib.hid hL
  clear hL ha
  go_enter Try.func73, Try.ntmps73
  go_wp2
  go_loopw [8] (fun i wr => ∃ k : Nat, k ≤ L ∧ i = .int .i64 (k : Nat) ∧ Hid (Below w.heap.size w wr ∧ ∀ q ∈ l.take k, p q = false)) (fun i _ => L - (intOf i).toNat)
  case atStart => exact ⟨0, Nat.zero_le _, rfl, Below.refl _ _, by simp⟩
  case round =>
    obtain ⟨k, hk, rfl, HR⟩ := hrel
    by_cases hlt : k < L
    · have hltz : (k : Int) < (L : Int) := by omega
      obtain ⟨x, hx⟩ : ∃ x, l[k]? = some x := ⟨_, List.getElem?_eq_getElem (by rw [HL.out]; exact hlt)⟩
      obtain ⟨b, off, rfl, hb, hc⟩ := PsAt.cell (HP.out.below HR.out.1) hx
      obtain ⟨c0, c1⟩ := hc wr (Below.refl _ _)
      have HN := Lib.hid (HA.out.calls wr HR.out.1 x (HP.out.ok x (List.mem_of_getElem? hx)))
      have HX := Lib.hid hx
      clear hc hx hb
      cases hz : p x
      · rw [hz] at HN
        have HZ := Lib.hid hz
        clear hz
        go_wp2_with fail
        refine HN.out.mono ?_
        rintro e w3 ⟨rfl, hb3⟩
        have HB := Lib.hid (HR.out.1.trans (hb3.mono HR.out.1.size))
        clear hb3
        go_wp2
        go_roundw
        case rel =>
          refine ⟨k + 1, by omega, by go_num, HB.out, fun q hq => ?_⟩
          rw [take_snoc HX.out] at hq
          rcases List.mem_append.1 hq with hq | hq
          · exact HR.out.2 q hq
          · rw [List.mem_singleton] at hq; rw [hq]; exact HZ.out
        case measure => simp [intOf]; omega
      · rw [hz] at HN
        have HZ := Lib.hid hz
        clear hz
        go_wp2_with fail
        refine HN.out.mono ?_
        rintro e w3 ⟨rfl, hb3⟩
        have HB := Lib.hid (HR.out.1.trans (hb3.mono HR.out.1.size))
        clear hb3
        go_wp2
        go_ret
        exact ⟨_, rfl, .inr ⟨k, rfl, ⟨x, HX.out, HZ.out⟩, HR.out.2⟩, HB.out⟩
    · obtain rfl : k = L := by omega
      have HB := Lib.hid HR.out
      clear HR
      go_wp2
      go_ret
      exact ⟨_, rfl, .inl ⟨rfl, fun q hq => HB.out.2 q (by rw [take_all HL.out]; exact hq)⟩, HB.out.1⟩
theorem contains_any (v : Value) (l : List PL) (f : Nat) (c : Value) (p : PL → Bool) (w : World) (hp : PsAt w v l) (ha : AsksAt w f c p) :
    Calls Try.prog 67 #[v, .func (.func f) #[] #[c]] w fun e w' => e = .returned (.bool (l.any p)) ∧ Below w.heap.size w w' := by
  have HI := Lib.hid (index_any v l f c p w hp ha)
  clear hp ha
  go_enter Try.func67, Try.ntmps67
  go_wp2_with fail
  refine HI.out.mono ?_
  rintro e w1 ⟨z, rfl, hz, hb⟩
  have HB := Lib.hid hb
  clear hb
  have hzz : decide (0 ≤ z) = l.any p := by
    rcases hz with ⟨rfl, h⟩ | ⟨k, rfl, ⟨q, hq, hp⟩, -⟩
    · rw [List.any_eq_false.2 fun q hq => by rw [h q hq]; simp]; rfl
    · rw [List.any_eq_true.2 ⟨q, List.mem_of_getElem? hq, hp⟩]; simp
  have HZ := Lib.hid hzz
  clear hz hzz
  go_wp2
  go_ret
  refine ⟨?_, HB.out⟩
  rw [← HZ.out]
  simp
theorem KeptAt.cell {w : World} {g cap : Nat} {l : List PL} {j : Nat} {F : List PL} (h : KeptAt w g cap l j F) {x : PL} (hx : l[j]? = some x) (r : Nat) (hr : r < 2) : w.cell? ⟨g, j * 2 + r, none⟩ = x.cells[r]? := by
  obtain ⟨cur, hg, _, _, h2⟩ := h
  rw [Go.Joins.cell_of_block hg]
  exact h2 j x (Nat.le_refl _) hx r hr
theorem KeptAt.has {w : World} {g cap : Nat} {l : List PL} {j : Nat} {F : List PL} (h : KeptAt w g cap l j F) (n : Nat) (hn : n < cap * 2) : ∃ e, w.cell? ⟨g, n, none⟩ = some e := by
  obtain ⟨cur, hg, hs, _⟩ := h
  exact ⟨_, by rw [Go.Joins.cell_of_block hg]; exact Array.getElem?_eq_getElem (by omega)⟩
theorem KeptAt.fz {w : World} {g cap : Nat} {l : List PL} {j : Nat} {F : List PL} (h : KeptAt w g cap l j F) (n : Nat) : w.frozen? ⟨g, n, none⟩ = false := by
  obtain ⟨cur, hg, _⟩ := h
  simp [World.frozen?, hg]
def zPl : List Value := [.int .i64 0, .int .u64 0]
def zRows (n : Nat) : List Value := (Builtin.zeroCells zPl.toArray n).toList
theorem zRows_len (n : Nat) : (zRows n).length = n * 2 := by
  unfold zRows
  rw [Array.length_toList, size_zeroCells]
  rfl
theorem run_clear_ps (w : World) (ty : TypeId) (b o n c : Nat) (hn : 0 < n) (hc : ∀ j, j < n * 2 → (w.cell? ⟨b, o + j, none⟩).isSome = true ∧ w.frozen? ⟨b, o + j, none⟩ = false) :
    (Builtin.clear_ #[30] ty #[.slice (some ⟨b, o, none⟩) n c]).run Try.prog w = .ok (.tuple #[]) (w.setCells b o (zRows n)) := by
  have hone : ∀ v ∈ zRows n, v.oneCell' = true := by
    intro v hv
    unfold zRows Builtin.zeroCells at hv
    simp [zPl] at hv
    obtain ⟨a, _, rfl⟩ := hv
    have h2 := Nat.mod_lt a (show 0 < 2 by decide)
    generalize a % 2 = r at h2
    rcases (show r = 0 ∨ r = 1 by omega) with rfl | rfl <;> rfl
  have hst := run_storeCells_cells (P := Try.prog) b o (zRows n) 0 w (fun j hj => by simpa using (hc j (by rwa [zRows_len] at hj)).1) (fun j hj => by simpa using (hc j (by rwa [zRows_len] at hj)).2) hone
  simp only [Nat.add_zero] at hst
  unfold zRows zPl at hst ⊢
  obtain ⟨m, rfl⟩ : ∃ m, n = m + 1 := ⟨n - 1, by omega⟩
  simp [Builtin.clear_, run_underlying Try.underlying30, Try.zeroValue38, Value.cells, hst]
/-- those that are not as asked -/
def rej (p : PL → Bool) (l : List PL) : List PL := l.filter fun q => !p q
theorem rej_app (p : PL → Bool) (l : List PL) (x : PL) : rej p (l ++ [x]) = if p x = true then rej p l else rej p l ++ [x] := by
  unfold rej
  rw [List.filter_append]
  cases hx : p x <;> simp [hx]
theorem rej_len (p : PL → Bool) (l : List PL) : (rej p l).length ≤ l.length := List.length_filter_le _ _
theorem rej_ok {p : PL → Bool} {l : List PL} (h : ∀ q ∈ l, q.ok) : ∀ q ∈ rej p l, q.ok := fun q hq => h q (List.mem_filter.1 hq).1
end Go.Proofs.Ytpihogkhfmijcaa
