/- Boxes that hold a fragment; rows; regions whose callees lay new blocks alone. slices.Clone, IndexFunc, ContainsFunc, DeleteFunc of places; without. extend. -/
import Derived.Test.YtpihogkhfmijcaaGreatPa
import Derived.RangeFuncNested
import Derived.RangeFuncBound
import Derived.RangeFuncCalls
import Derived.RangeFuncLeaves
import Derived.RangeFuncBox
import Derived.Shelf.RegionOpen
import Derived.WalkKit
import Derived.OwnWalkIn
import Derived.TacticsInMore
import Derived.LoopNIn
import Derived.LoopIn
import Derived.BigQuiet
import Derived.Deep.RegionLaw
import Derived.Laws.IdiomCopy
namespace Go.Proofs.YtpihogkhfmijcaaGreat
open Go.RowKit Go.Maps Go.Shelf
/-- a box that holds a fragment -/
def Box25 (w : World) (g : Nat) (f : Int) (u : Value) : Prop := w.heap[g]? = some (.cells #[.int .u64 f, u] 73 (0, 0))
theorem Box25.keep {X Y : World} {g : Nat} {f : Int} {u : Value} {row : Option Nat} (h : Box25 X g f u) (hg : X.grownBy Y row) (hr : ∀ r, row = some r → ∃ o : Obj, X.heap[r]? = some o ∧ o.isCells = false) : Box25 Y g f u := by
  unfold Box25 at h ⊢
  rw [← h]
  refine hg.block g (lt_of_block h) fun e => ?_
  obtain ⟨o, h1, h2⟩ := hr g e.symm
  rw [h] at h1
  cases h1
  cases h2
theorem Box25.alloc {w : World} {g : Nat} {f : Int} {u : Value} (h : Box25 w g f u) (o : Obj) : Box25 (w.alloc o) g f u := (Below.heap_alloc w o g (lt_of_block h)).trans h
theorem Box25.new (w : World) (f : Int) (u : Value) : Box25 (w.alloc (.cells #[.int .u64 f, u] 73)) w.heap.size f u := heap_alloc_new _ _
theorem Box25.c0 {w : World} {g : Nat} {f : Int} {u : Value} (h : Box25 w g f u) : w.cell? ⟨g, 0, none⟩ = some (.int .u64 f) := by rw [Go.Joins.cell_of_block h]; rfl
theorem Box25.c1 {w : World} {g : Nat} {f : Int} {u : Value} (h : Box25 w g f u) : w.cell? ⟨g, 1, none⟩ = some u := by rw [Go.Joins.cell_of_block h]; rfl
theorem Box25.fz {w : World} {g : Nat} {f : Int} {u : Value} (h : Box25 w g f u) (j : Nat) : w.frozen? ⟨g, j, none⟩ = false := by unfold Box25 at h; simp [World.frozen?, h]
theorem Box25.put {w : World} {g : Nat} {f : Int} {u : Value} (h : Box25 w g f u) (f' : Int) (u' : Value) : Box25 ((w.setCell ⟨g, 0, none⟩ (.int .u64 f')).setCell ⟨g, 1, none⟩ u') g f' u' := Go.Joins.block_setCell (Go.Joins.block_setCell h _) _
theorem Box25.other {w : World} {g B : Nat} {f : Int} {u : Value} (h : Box25 w g f u) (hne : g ≠ B) (o : Nat) (v : Value) : Box25 (w.setCell ⟨B, o, none⟩ v) g f u := (Below.heap_setCell w ⟨B, o, none⟩ v g hne).trans h
theorem Boxed.beside {w : World} {g B t : Nat} {v : Value} (h : Boxed w g t v) (hne : g ≠ B) (o : Nat) (u : Value) : Boxed (w.setCell ⟨B, o, none⟩ u) g t v := (Below.heap_setCell w ⟨B, o, none⟩ u g hne).trans h
theorem PsAt.keep {A B : World} {v : Value} {l : List PL} {row : Option Nat} (h : PsAt A v l) (hg : A.grownBy B row) (hr : ∀ r, row = some r → ∃ o : Obj, A.heap[r]? = some o ∧ o.isCells = false) : PsAt B v l := by
  obtain ⟨a, cap, hv, hl, hlc, hn, h⟩ := h
  refine ⟨a, cap, hv, hl, hlc, hn, fun h0 => ?_⟩
  obtain ⟨b, off, ha, hb, hc⟩ := h h0
  refine ⟨b, off, ha, Nat.lt_of_lt_of_le hb hg.size, fun j x hj => ⟨(hc j x hj).1, fun r hr2 => ?_⟩⟩
  obtain ⟨e, he⟩ : ∃ e, (PL.cells x)[r]? = some e := ⟨_, List.getElem?_eq_getElem (by simpa [PL.cells] using hr2)⟩
  rw [he]
  exact cell_kept (((hc j x hj).2 r hr2).trans he) hg hr
theorem Boxed.below {W W' : World} {B : Nat} {t : TypeId} {v : Value} (h : Boxed W B t v) (hb : Below W.heap.size W W') : Boxed W' B t v := (hb.block B h.lt).trans h
theorem Box25.below {W W' : World} {B : Nat} {f : Int} {v : Value} (h : Box25 W B f v) (hb : Below W.heap.size W W') : Box25 W' B f v := (hb.block B (lt_of_block h)).trans h
theorem below_put {n₀ : Nat} {W : World} {l : Nat} {o : Obj} (o' : Obj) (hl : n₀ ≤ l) (h : W.heap[l]? = some o) : Below n₀ W (W.putObj l o') :=
  (Below.refl n₀ W).grown (grownBy_putObj' W l o') (by have := (Array.getElem?_eq_some_iff.1 h).1; omega) (fun k e => by cases e; omega)
theorem boxed_put {W : World} {B l : Nat} {t : TypeId} {v : Value} {o : Obj} (o' : Obj) (h : Boxed W B t v) (hl : W.heap[l]? = some o) (ho : o.isCells = false) : Boxed (W.putObj l o') B t v :=
  h.kept (grownBy_putObj' W l o') fun e => by
    cases e
    rw [show W.heap[B]? = _ from h] at hl
    cases hl
    cases ho
theorem PsAt.nil (w : World) : PsAt w (.slice none 0 0) [] := ⟨none, 0, rfl, by simp, by simp, fun _ => rfl, fun h => absurd h (by simp)⟩
/-- places in a new block -/
theorem PsAt.new (w : World) (l : List PL) (hl : l.length ≤ 1000000) (hok : ∀ q ∈ l, q.ok) (C : Array Value) (hC : ∀ j q r, l[j]? = some q → r < 2 → C[j * 2 + r]? = q.cells[r]?) : PsAt (w.alloc (.cells C 40)) (.slice (some ⟨w.heap.size, 0, none⟩) l.length l.length) l := by
  refine ⟨_, _, rfl, by omega, Nat.le_refl _, (fun h => by cases h), fun _ => ⟨_, 0, rfl, by simp [World.size_alloc], fun j x hj => ⟨hok x (List.mem_of_getElem? hj), fun r hr => ?_⟩⟩⟩
  rw [Nat.zero_add, World.cell?_alloc_new]
  exact hC j x r hj hr
theorem PsAt.front {w : World} {a : Option Addr} {n c : Nat} {l : List PL} (h : PsAt w (.slice a n c) l) {k : Nat} (hk : k ≤ l.length) : PsAt w (.slice a k c) (l.take k) := by
  obtain ⟨a', cap, hv, h1, h2, h3, h4⟩ := h
  cases hv
  have hl : (l.take k).length = k := by rw [List.length_take]; omega
  refine ⟨a, c, by rw [hl], by omega, by omega, h3, fun h0 => ?_⟩
  obtain ⟨b, off, ha, hb, hc⟩ := h4 (by omega)
  exact ⟨b, off, ha, hb, fun j x hj => hc j x (by rw [List.getElem?_take] at hj; split at hj; exact hj; cases hj)⟩
theorem OwnPs.form {base : Nat} {w : World} {v : Value} {l : List PL} (h : OwnPs base w v l) (hok : ∀ q ∈ l, q.ok) : ∃ a c, v = .slice a l.length c := by
  obtain ⟨a, c, hv, _⟩ := (h.at hok).form
  exact ⟨a, c, hv⟩
theorem rot_snoc (row : List PL) (fr k : Nat) : rot row fr (k + 1) = rot row fr k ++ [row.getD ((fr + k) % row.length) default] := by
  unfold rot
  rw [List.range_succ, List.map_append]
  rfl
theorem rot_ok {row : List PL} {fr n : Nat} (h : 0 < row.length) (hok : ∀ x ∈ row, x.ok) : ∀ x ∈ rot row fr n, x.ok := fun x hx => hok x (rot_mem h x hx)
/-- behind W0, with new blocks alone -/
def On (W0 W : World) : Prop := Below W0.heap.size W0 W
theorem On.step {W0 W W' : World} (h : On W0 W) (hb : Below W.heap.size W W') : On W0 W' := Below.trans h (hb.mono (Below.size h))
theorem region_on {id : Nat} {Q : Exit → Act → World → Prop} {a : Act} {w : World} {l : List Oper} (hm : Tryz.prog.follows .mixedOrders = true) (hB : Region.lexB .any l.toArray = true) (W0 : World) (hC : On W0 w)
    (h : wpQuiet Tryz.prog l.toArray (On W0) (fun a' => ∀ w', On W0 w' → Q .normal a' w') l a) : (Code.region id l.toArray true).wp Tryz.prog Q a w :=
  wp_region_quiet (C := On W0) hm hB (Below.drew hC) (by simpa using h)
theorem calls_on {W0 W : World} (hC : On W0 W) {f : Nat} {args : Array Value} {v : Value} (h : Calls Tryz.prog f args W fun e w' => e = .returned v ∧ Below W.heap.size W w') : Calls Tryz.prog f args W fun e w' => e = .returned v ∧ On W0 w' :=
  h.mono fun _ _ ⟨he, hb⟩ => ⟨he, hC.step hb⟩
theorem calls_on' {W0 W : World} (hC : On W0 W) {f : Nat} {args : Array Value} {v : Value} (h : Calls Tryz.prog f args W fun e w' => e = .returned v ∧ w' = W) : Calls Tryz.prog f args W fun e w' => e = .returned v ∧ On W0 w' :=
  h.mono fun _ _ ⟨he, hb⟩ => ⟨he, by rw [hb]; exact hC⟩
end Go.Proofs.YtpihogkhfmijcaaGreat
namespace Go.Proofs.YtpihogkhfmijcaaGreat
open Go.RowKit Go.Maps Go.Shelf
set_option maxRecDepth 100000 in
theorem clone_any (v : Value) (l : List PL) (w : World) (hp : PsAt w v l) (hl : l.length ≤ 100000) :
    Calls Tryz.prog 64 #[v] w fun e w' => ∃ v', e = .returned v' ∧ OwnPs w.heap.size w' v' l ∧ Below w.heap.size w w' := by
  have HP := Lib.hid hp
  have HONE := Lib.hid (ps_oneCell l)
  obtain ⟨ad, cap, rfl, -, hlc, hn⟩ := hp.form
  clear hp
  cases ad with
  | none =>
    have := hn rfl
    obtain rfl : l = [] := List.eq_nil_of_length_eq_zero (by omega)
    obtain rfl : cap = 0 := this
    have k := fun wx => Lib.run_eql_slice_nil (P := Tryz.prog) wx 29 40 none 0 0 0 0 Tryz.underlying29
    go_enter Tryz.func64, Tryz.ntmps64
    go_wp2
    go_ret
    exact ⟨_, rfl, World.ownsRow_nil _ _ _ _, Below.refl _ _⟩
  | some ad =>
    have k := fun wx => Lib.run_eql_slice_nil (P := Tryz.prog) wx 29 40 (some ad) l.length cap 0 0 Tryz.underlying29
    have BA := Go.Joins.below_alloc1 w (.cells #[] 40)
    have HO := Lib.hid (show OwnPs w.heap.size (w.alloc (.cells #[] 40)) (.slice (some ⟨w.heap.size, 0, none⟩) 0 0) [] ∧ PsAt (w.alloc (.cells #[] 40)) (.slice (some ad) l.length cap) l ∧ Below w.heap.size w (w.alloc (.cells #[] 40)) from ⟨OwnRow.made w, HP.out.below BA, BA⟩)
    clear hlc hn
    go_enter Tryz.func64, Tryz.ntmps64
    go_wp2_with (at_builtin; refine wpList_append_rows rfl _ _ 29 40 2 16 _ PL.cells rfl Tryz.underlying29 info38 rfl (by decide) (by decide) (fun _ => rfl) w.heap.size _ _ [] l rfl rfl HO.out.1 HO.out.2.1 HONE.out (by simp; omega) HO.out.2.2.size ?_; intro v2 w2 ho2 hg2; have HO2 := Lib.hid ho2; have B2 := Lib.hid (HO.out.2.2.grown hg2 HO.out.2.2.size (fun k hk => (OwnRow.lt HO.out.1 k hk).1)); clear ho2 hg2)
    go_ret
    exact ⟨_, rfl, HO2.out, B2.out⟩
/-- the cells vs over c from o on -/
def over (c : Array Value) (o : Nat) : List Value → Array Value
  | [] => c
  | v :: r => over (c.setIfInBounds o v) (o + 1) r
theorem over_size : ∀ (vs : List Value) (c : Array Value) (o : Nat), (over c o vs).size = c.size
  | [], _, _ => rfl
  | v :: r, c, o => by rw [over, over_size r]; simp
theorem over_get : ∀ (vs : List Value) (c : Array Value) (o j : Nat), o + vs.length ≤ c.size → (over c o vs)[j]? = if o ≤ j ∧ j < o + vs.length then vs[j - o]? else c[j]?
  | [], c, o, j, _ => by rw [over, if_neg (by simp)]
  | v :: r, c, o, j, h => by
    simp only [List.length_cons] at h
    rw [over, over_get r _ (o + 1) j (by simp; omega)]
    by_cases h1 : o + 1 ≤ j ∧ j < o + 1 + r.length
    · rw [if_pos h1, if_pos (by simp; omega), show j - o = j - (o + 1) + 1 by omega]
      rfl
    · rw [if_neg h1]
      by_cases h2 : j = o
      · subst h2
        rw [if_pos (by simp), Array.getElem?_setIfInBounds]
        simp
        omega
      · rw [if_neg (by simp; omega), Array.getElem?_setIfInBounds, if_neg (by omega)]
theorem block_setCells (g : Nat) (t : TypeId) (fr : Nat × Nat) : ∀ (vs : List Value) (o : Nat) (c : Array Value) (w : World), w.heap[g]? = some (.cells c t fr) → (w.setCells g o vs).heap[g]? = some (.cells (over c o vs) t fr)
  | [], _, _, _, h => h
  | v :: r, o, c, w, h => by
    rw [World.setCells, over]
    exact block_setCells g t fr r (o + 1) _ _ (Go.Joins.block_setCell h v)
theorem chg_setCells {S : Nat → Prop} (g : Nat) : ∀ (vs : List Value) (o : Nat) (a w : World), Chg S a w → S g → Chg S a (w.setCells g o vs)
  | [], _, _, _, h, _ => h
  | v :: r, o, a, w, h, hg => by
    rw [World.setCells]
    exact chg_setCells g r (o + 1) a _ (h.setCell (p := ⟨g, o, none⟩) (.inl hg) v) hg
theorem put2_cells (w : World) (g o : Nat) (q : PL) : put2 w g o q = w.setCells g o q.cells := rfl
/-- of the first j those that are kept lie ahead, those from j on where they lay -/
def KeptAt (w : World) (g cap : Nat) (l : List PL) (j : Nat) (F : List PL) : Prop :=
  ∃ cur, w.heap[g]? = some (.cells cur 40 (0, 0)) ∧ cur.size = cap * 2 ∧ (∀ (t : Nat) x, F[t]? = some x → ∀ r, r < 2 → cur[t * 2 + r]? = x.cells[r]?) ∧ ∀ (t : Nat) x, j ≤ t → l[t]? = some x → ∀ r, r < 2 → cur[t * 2 + r]? = x.cells[r]?
theorem KeptAt.chg {w w' : World} {g cap : Nat} {l : List PL} {j : Nat} {F : List PL} (h : KeptAt w g cap l j F) (hb : w'.heap[g]? = w.heap[g]?) : KeptAt w' g cap l j F := by
  obtain ⟨cur, hg, h⟩ := h
  exact ⟨cur, hb.trans hg, h⟩
theorem KeptAt.skip {w : World} {g cap : Nat} {l : List PL} {j : Nat} {F : List PL} (h : KeptAt w g cap l j F) : KeptAt w g cap l (j + 1) F := by
  obtain ⟨cur, hg, hs, h1, h2⟩ := h
  exact ⟨cur, hg, hs, h1, fun t x ht => h2 t x (by omega)⟩
theorem KeptAt.keep {w : World} {g cap : Nat} {l : List PL} {j : Nat} {F : List PL} (h : KeptAt w g cap l j F) (x : PL) (hj : F.length ≤ j) (hc : j < cap) : KeptAt (put2 w g (F.length * 2) x) g cap l (j + 1) (F ++ [x]) := by
  obtain ⟨cur, hg, hs, h1, h2⟩ := h
  have hx2 : x.cells.length = 2 := rfl
  have hfit : F.length * 2 + x.cells.length ≤ cur.size := by rw [hs]; omega
  refine ⟨over cur (F.length * 2) x.cells, by rw [put2_cells]; exact block_setCells g 40 (0, 0) _ _ _ _ hg, by rw [over_size, hs], fun t y ht r hr => ?_, fun t y ht hy r hr => ?_⟩
  · rw [over_get _ _ _ _ hfit]
    rcases Nat.lt_or_ge t F.length with h | h
    · rw [if_neg (by omega)]
      rw [List.getElem?_append_left h] at ht
      exact h1 t y ht r hr
    · have htl := (List.getElem?_eq_some_iff.1 ht).1
      simp only [List.length_append, List.length_cons, List.length_nil] at htl
      obtain rfl : t = F.length := by omega
      rw [List.getElem?_append_right (Nat.le_refl _), Nat.sub_self] at ht
      simp at ht
      subst ht
      rw [if_pos (by omega), show F.length * 2 + r - F.length * 2 = r by omega]
  · rw [over_get _ _ _ _ hfit]
    rw [if_neg (by omega)]
    exact h2 t y (by omega) hy r hr
theorem KeptAt.done {w : World} {g cap base : Nat} {l : List PL} {j : Nat} {F : List PL} (h : KeptAt w g cap l j F) (zs : List Value) (hF : F.length * 2 + zs.length ≤ cap * 2) (hcap : cap ≤ maxLen) (hb : base ≤ g) :
    OwnPs base (w.setCells g (F.length * 2) zs) (.slice (some ⟨g, 0, none⟩) F.length cap) F := by
  obtain ⟨cur, hg, hs, h1, _⟩ := h
  refine ⟨flat_len (k := 2) (enc := PL.cells) (fun _ => rfl) F, .inr ⟨g, cap, _, rfl, hb, block_setCells g 40 (0, 0) _ _ _ _ hg, by omega, hcap, by rw [over_size, hs], ?_⟩⟩
  have hl := flat_len (k := 2) (enc := PL.cells) (fun _ => rfl) F
  apply List.ext_getElem?
  intro n
  by_cases hn : n < F.length * 2
  · rw [List.getElem?_take_of_lt hn, Array.getElem?_toList, over_get _ _ _ _ (by rw [hs]; exact hF), if_neg (by omega)]
    have hd : n / 2 * 2 + n % 2 = n := by omega
    have hx := List.getElem?_eq_getElem (show n / 2 < F.length by omega)
    rw [← hd, flat_at (k := 2) (enc := PL.cells) (fun _ => rfl) _ _ _ (by omega), hx]
    exact h1 _ _ hx _ (by omega)
  · rw [List.getElem?_eq_none (by simp; omega), List.getElem?_eq_none (by rw [hl]; omega)]
theorem KeptAt.start {w : World} {g cap : Nat} {l : List PL} {cur : Array Value} (hg : w.heap[g]? = some (.cells cur 40 (0, 0))) (hcs : cur.size = cap * 2) (htake : cur.toList.take (l.length * 2) = l.flatMap PL.cells) (k : Nat) : KeptAt w g cap l (k + 1) (l.take k) := by
  have hcell : ∀ (t : Nat) x, l[t]? = some x → ∀ r, r < 2 → cur[t * 2 + r]? = x.cells[r]? := fun t x hx r hr => by
    have htl := (List.getElem?_eq_some_iff.1 hx).1
    have e : (cur.toList.take (l.length * 2))[t * 2 + r]? = (l.flatMap PL.cells)[t * 2 + r]? := by rw [htake]
    rw [List.getElem?_take_of_lt (by omega), Array.getElem?_toList, flat_at (k := 2) (enc := PL.cells) (fun _ => rfl) _ _ _ hr, hx] at e
    exact e
  exact ⟨cur, hg, hcs, fun t x hx => hcell t x (by rw [List.getElem?_take] at hx; split at hx; exact hx; cases hx), fun t x _ hx => hcell t x hx⟩
set_option maxHeartbeats 400000 in
theorem index_any (v : Value) (l : List PL) (f : Nat) (c : Value) (p : PL → Bool) (w : World) (hp : PsAt w v l) (ha : AsksAt w f c p) :
    Calls Tryz.prog 84 #[v, .func (.func f) #[] #[c]] w fun e w' => ∃ z : Int, e = .returned (.int .i64 z) ∧ ((z = -1 ∧ ∀ q ∈ l, p q = false) ∨ ∃ k : Nat, z = k ∧ (∃ q, l[k]? = some q ∧ p q = true) ∧ ∀ q ∈ l.take k, p q = false) ∧ Below w.heap.size w w' := by
  have HP := Lib.hid hp
  have HA := Lib.hid ha
  have hen := ha.enters
  obtain ⟨a, cap, rfl, hlen, -⟩ := hp
  obtain ⟨L, hL⟩ : ∃ L, l.length = L := ⟨_, rfl⟩
  rw [hL] at hlen HP ⊢
  have HL := Lib.hid hL
  clear hL ha
  go_enter Tryz.func84, Tryz.ntmps84
  go_wp2
  go_loopw [8] (fun i wr => ∃ k : Nat, k ≤ L ∧ i = .int .i64 (k : Nat) ∧ Hid (Below w.heap.size w wr ∧ ∀ q ∈ l.take k, p q = false)) (fun i _ => L - (intOf i).toNat)
  case atStart => exact ⟨0, Nat.zero_le _, rfl, Below.refl _ _, by simp⟩
  case round =>
    obtain ⟨k, hk, rfl, HR⟩ := hrel
    by_cases hlt : k < L
    · have hltz : (k : Int) < (L : Int) := by omega
      obtain ⟨x, hx⟩ : ∃ x, l[k]? = some x := ⟨_, List.getElem?_eq_getElem (by rw [HL.out]; exact hlt)⟩
      obtain ⟨b, off, rfl, hb, hc⟩ := PsAt.cell (HP.out.below HR.out.1) hx
      obtain ⟨c0, c1⟩ := hc wr (Below.refl _ _)
      have HN := Lib.hid (HA.out.calls wr HR.out.1 x (HP.out.ok x (List.mem_of_getElem? hx)))
      have HX := Lib.hid hx
      clear hc hx hb
      cases hz : p x
      · rw [hz] at HN
        have HZ := Lib.hid hz
        clear hz
        go_wp2_with fail
        refine HN.out.mono ?_
        rintro e w3 ⟨rfl, hb3⟩
        have HB := Lib.hid (HR.out.1.trans (hb3.mono HR.out.1.size))
        clear hb3
        go_wp2
        go_roundw
        case rel =>
          refine ⟨k + 1, by omega, by go_num, HB.out, fun q hq => ?_⟩
          rw [take_snoc HX.out] at hq
          rcases List.mem_append.1 hq with hq | hq
          · exact HR.out.2 q hq
          · rw [List.mem_singleton] at hq; rw [hq]; exact HZ.out
        case measure => simp [intOf]; omega
      · rw [hz] at HN
        have HZ := Lib.hid hz
        clear hz
        go_wp2_with fail
        refine HN.out.mono ?_
        rintro e w3 ⟨rfl, hb3⟩
        have HB := Lib.hid (HR.out.1.trans (hb3.mono HR.out.1.size))
        clear hb3
        go_wp2
        go_ret
        exact ⟨_, rfl, .inr ⟨k, rfl, ⟨x, HX.out, HZ.out⟩, HR.out.2⟩, HB.out⟩
    · obtain rfl : k = L := by omega
      have HB := Lib.hid HR.out
      clear HR
      go_wp2
      go_ret
      exact ⟨_, rfl, .inl ⟨rfl, fun q hq => HB.out.2 q (by rw [take_all HL.out]; exact hq)⟩, HB.out.1⟩
theorem contains_any (v : Value) (l : List PL) (f : Nat) (c : Value) (p : PL → Bool) (w : World) (hp : PsAt w v l) (ha : AsksAt w f c p) :
    Calls Tryz.prog 78 #[v, .func (.func f) #[] #[c]] w fun e w' => e = .returned (.bool (l.any p)) ∧ Below w.heap.size w w' := by
  have HI := Lib.hid (index_any v l f c p w hp ha)
  clear hp ha
  go_enter Tryz.func78, Tryz.ntmps78
  go_wp2_with fail
  refine HI.out.mono ?_
  rintro e w1 ⟨z, rfl, hz, hb⟩
  have HB := Lib.hid hb
  clear hb
  have hzz : decide (0 ≤ z) = l.any p := by
    rcases hz with ⟨rfl, h⟩ | ⟨k, rfl, ⟨q, hq, hp⟩, -⟩
    · rw [List.any_eq_false.2 fun q hq => by rw [h q hq]; simp]; rfl
    · rw [List.any_eq_true.2 ⟨q, List.mem_of_getElem? hq, hp⟩]; simp
  have HZ := Lib.hid hzz
  clear hz hzz
  go_wp2
  go_ret
  refine ⟨?_, HB.out⟩
  rw [← HZ.out]
  simp
theorem KeptAt.cell {w : World} {g cap : Nat} {l : List PL} {j : Nat} {F : List PL} (h : KeptAt w g cap l j F) {x : PL} (hx : l[j]? = some x) (r : Nat) (hr : r < 2) : w.cell? ⟨g, j * 2 + r, none⟩ = x.cells[r]? := by
  obtain ⟨cur, hg, _, _, h2⟩ := h
  rw [Go.Joins.cell_of_block hg]
  exact h2 j x (Nat.le_refl _) hx r hr
theorem KeptAt.has {w : World} {g cap : Nat} {l : List PL} {j : Nat} {F : List PL} (h : KeptAt w g cap l j F) (n : Nat) (hn : n < cap * 2) : ∃ e, w.cell? ⟨g, n, none⟩ = some e := by
  obtain ⟨cur, hg, hs, _⟩ := h
  exact ⟨_, by rw [Go.Joins.cell_of_block hg]; exact Array.getElem?_eq_getElem (by omega)⟩
theorem KeptAt.fz {w : World} {g cap : Nat} {l : List PL} {j : Nat} {F : List PL} (h : KeptAt w g cap l j F) (n : Nat) : w.frozen? ⟨g, n, none⟩ = false := by
  obtain ⟨cur, hg, _⟩ := h
  simp [World.frozen?, hg]
def zPl : List Value := [.int .i64 0, .int .u64 0]
def zRows (n : Nat) : List Value := (Builtin.zeroCells zPl.toArray n).toList
theorem zRows_len (n : Nat) : (zRows n).length = n * 2 := by
  unfold zRows
  rw [Array.length_toList, size_zeroCells]
  rfl
theorem run_clear_ps (w : World) (ty : TypeId) (b o n c : Nat) (hn : 0 < n) (hc : ∀ j, j < n * 2 → (w.cell? ⟨b, o + j, none⟩).isSome = true ∧ w.frozen? ⟨b, o + j, none⟩ = false) :
    (Builtin.clear_ #[29] ty #[.slice (some ⟨b, o, none⟩) n c]).run Tryz.prog w = .ok (.tuple #[]) (w.setCells b o (zRows n)) := by
  have hone : ∀ v ∈ zRows n, v.oneCell' = true := by
    intro v hv
    unfold zRows Builtin.zeroCells at hv
    simp [zPl] at hv
    obtain ⟨a, _, rfl⟩ := hv
    have h2 := Nat.mod_lt a (show 0 < 2 by decide)
    generalize a % 2 = r at h2
    rcases (show r = 0 ∨ r = 1 by omega) with rfl | rfl <;> rfl
  have hst := run_storeCells_cells (P := Tryz.prog) b o (zRows n) 0 w (fun j hj => by simpa using (hc j (by rwa [zRows_len] at hj)).1) (fun j hj => by simpa using (hc j (by rwa [zRows_len] at hj)).2) hone
  simp only [Nat.add_zero] at hst
  unfold zRows zPl at hst ⊢
  obtain ⟨m, rfl⟩ : ∃ m, n = m + 1 := ⟨n - 1, by omega⟩
  simp [Builtin.clear_, run_underlying Tryz.underlying29, Tryz.zeroValue40, Value.cells, hst]
/-- those that are not as asked -/
def rej (p : PL → Bool) (l : List PL) : List PL := l.filter fun q => !p q
theorem rej_app (p : PL → Bool) (l : List PL) (x : PL) : rej p (l ++ [x]) = if p x = true then rej p l else rej p l ++ [x] := by
  unfold rej
  rw [List.filter_append]
  cases hx : p x <;> simp [hx]
theorem rej_len (p : PL → Bool) (l : List PL) : (rej p l).length ≤ l.length := List.length_filter_le _ _
theorem rej_ok {p : PL → Bool} {l : List PL} (h : ∀ q ∈ l, q.ok) : ∀ q ∈ rej p l, q.ok := fun q hq => h q (List.mem_filter.1 hq).1
end Go.Proofs.YtpihogkhfmijcaaGreat
namespace Go.Proofs.YtpihogkhfmijcaaGreat
open Go.RowKit Go.Maps Go.Shelf
/-- those of known behind a row whose nodes are not there, up to so many in all -/
def ext (row : List PL) (most : Int) (known : List PL) : List PL :=
  known.foldl (fun r p => if decide ((r.length : Int) < most) = true ∧ r.any (fun q => q.n == p.n) = false then r ++ [p] else r) row
theorem ext_snoc (row : List PL) (most : Int) (known : List PL) (x : PL) : ext row most (known ++ [x]) = if decide (((ext row most known).length : Int) < most) = true ∧ (ext row most known).any (fun q => q.n == x.n) = false then ext row most known ++ [x] else ext row most known := by
  unfold ext
  rw [List.foldl_append]
  rfl
theorem ext_nil (row : List PL) (most : Int) : ext row most [] = row := rfl
theorem ext_len (row : List PL) (most : Int) (known : List PL) : (ext row most known).length ≤ row.length + known.length := by
  unfold ext
  induction known generalizing row with
  | nil => simp
  | cons x l ih =>
    rw [List.foldl_cons]
    refine Nat.le_trans (ih _) ?_
    split <;> simp only [List.length_append, List.length_cons, List.length_nil] <;> omega
theorem ext_mem {row known : List PL} {most : Int} : ∀ q ∈ ext row most known, q ∈ row ∨ q ∈ known := by
  unfold ext
  induction known generalizing row with
  | nil => intro q hq; exact .inl hq
  | cons x l ih =>
    intro q hq
    rw [List.foldl_cons] at hq
    rcases ih q hq with h | h
    · split at h
      · rcases List.mem_append.1 h with h | h
        · exact .inl h
        · rw [List.mem_singleton] at h; exact .inr (by rw [h]; exact List.mem_cons_self)
      · exact .inl h
    · exact .inr (List.mem_cons_of_mem _ h)
theorem ps_one (w : World) (x : PL) (hx : x.ok) : PsAt (w.alloc (.cells #[.int .i64 x.n, .int .u64 x.s] 40)) (.slice (some ⟨w.heap.size, 0, none⟩) 1 1) [x] := by
  refine ⟨_, _, rfl, by simp, Nat.le_refl _, (fun h => by cases h), fun _ => ⟨w.heap.size, 0, rfl, by rw [World.size_alloc]; omega, fun j y hj => ?_⟩⟩
  cases j with
  | zero =>
    simp at hj
    subst hj
    refine ⟨hx, fun r hr => ?_⟩
    rw [World.cell?_alloc_new]
    have h2 : r = 0 ∨ r = 1 := by omega
    rcases h2 with rfl | rfl <;> rfl
  | succ j => simp at hj
end Go.Proofs.YtpihogkhfmijcaaGreat
