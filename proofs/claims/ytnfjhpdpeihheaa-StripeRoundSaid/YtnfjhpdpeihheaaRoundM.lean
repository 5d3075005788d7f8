/- For StripeRound: how often a node comes in write sets that follow one another. -/
import Derived.Test.YtnfjhpdpeihheaaMeetM
namespace Go.Proofs.Ytnfjhpdpeihheaa
open Go.RowKit Go.Maps Go.Shelf
def sumN (g : Nat → Nat) : Nat → Nat
  | 0 => 0
  | n + 1 => sumN g n + g n
theorem sumN_le {g : Nat → Nat} {B : Nat} (h : ∀ i, g i ≤ B) : ∀ n, sumN g n ≤ n * B
  | 0 => by simp [sumN]
  | n + 1 => by
    have := sumN_le h n
    have := h n
    rw [sumN, Nat.succ_mul]
    omega
theorem sumN_add (g h : Nat → Nat) : ∀ n, sumN (fun i => g i + h i) n = sumN g n + sumN h n
  | 0 => rfl
  | n + 1 => by rw [sumN, sumN, sumN, sumN_add g h n]; omega
theorem sumN_zero : ∀ n, sumN (fun _ => 0) n = 0
  | 0 => rfl
  | n + 1 => by rw [sumN, sumN_zero n]
theorem sumN_swap (g : Nat → Nat → Nat) (N : Nat) : ∀ E, sumN (fun i => sumN (fun k => g i k) N) E = sumN (fun k => sumN (fun i => g i k) E) N
  | 0 => (sumN_zero N).symm
  | E + 1 => by
    rw [sumN, sumN_swap g N E, ← sumN_add]
    rfl
theorem sumN_congr {g h : Nat → Nat} : ∀ n, (∀ i, i < n → g i = h i) → sumN g n = sumN h n
  | 0, _ => rfl
  | n + 1, e => by rw [sumN, sumN, sumN_congr n (fun i hi => e i (by omega)), e n (by omega)]
theorem sumN_head (g : Nat → Nat) : ∀ n, sumN g (n + 1) = g 0 + sumN (fun i => g (i + 1)) n
  | 0 => by simp [sumN]
  | n + 1 => by rw [sumN, sumN_head g n, sumN]; omega
/-- a window of E numbers, wherever it begins -/
theorem sumN_turn (g : Nat → Nat) (E : Nat) : ∀ s, sumN (fun i => g ((s + i) % E)) E = sumN (fun i => g (i % E)) E
  | 0 => by simp
  | s + 1 => by
    rw [← sumN_turn g E s]
    cases E with
    | zero => rfl
    | succ n =>
      rw [sumN_head (fun i => g ((s + i) % (n + 1))) n, sumN]
      rw [show s + 1 + n = s + (n + 1) by omega, Nat.add_mod_right, Nat.add_zero, Nat.add_comm]
      congr 1
      exact sumN_congr n fun i _ => by rw [show s + 1 + i = s + (i + 1) by omega]
theorem sumN_one {g : Nat → Nat} {t : Nat} : ∀ n, t < n → (∀ i, i < n → g i = if i = t then 1 else 0) → sumN g n = 1
  | 0, h, _ => absurd h (Nat.not_lt_zero t)
  | n + 1, h, e => by
    rw [sumN]
    by_cases hn : t = n
    · rw [e n (by omega), if_pos hn.symm, sumN_congr (h := fun _ => 0) n (fun i hi => by rw [e i (by omega), if_neg (by omega)]), sumN_zero]
    · rw [sumN_one n (by omega) (fun i hi => e i (by omega)), e n (by omega), if_neg (fun h => hn h.symm)]
/-- the node that stands at a number, round -/
def nd (row : List PL) (q : Nat) : Int := (row.getD (q % row.length) default).n
def ind (a b : Int) : Nat := if a = b then 1 else 0
theorem ind_le (a b : Int) : ind a b ≤ 1 := by unfold ind; split <;> omega
/-- how often a node has come behind i write sets of N and k of the next one -/
def cntTo (row : List PL) (K N i k : Nat) (c : Int) : Nat := sumN (fun i' => sumN (fun k' => ind (nd row (K + i' + k')) c) N) i + sumN (fun k' => ind (nd row (K + i + k')) c) k
theorem cntTo_zero (row : List PL) (K N : Nat) (c : Int) : cntTo row K N 0 0 c = 0 := rfl
theorem cntTo_step (row : List PL) (K N i k : Nat) (c : Int) : cntTo row K N i (k + 1) c = cntTo row K N i k c + ind (nd row (K + i + k)) c := by
  unfold cntTo
  rw [sumN]
  omega
theorem cntTo_next (row : List PL) (K N i : Nat) (c : Int) : cntTo row K N (i + 1) 0 c = cntTo row K N i N c := by
  unfold cntTo
  rw [sumN, sumN]
  omega
theorem cntTo_le (row : List PL) (K N i k : Nat) (c : Int) : cntTo row K N i k c ≤ i * N + k := by
  unfold cntTo
  have h1 := sumN_le (g := fun i' => sumN (fun k' => ind (nd row (K + i' + k')) c) N) (B := N) (fun i' => by have := sumN_le (g := fun k' => ind (nd row (K + i' + k')) c) (B := 1) (fun k' => ind_le _ _) N; omega) i
  have h2 := sumN_le (g := fun k' => ind (nd row (K + i + k')) c) (B := 1) (fun k' => ind_le _ _) k
  omega
/-- each place is in N of E sets that follow one another -/
theorem cntTo_all {row : List PL} (h : MayRow row) (K N : Nat) {t : Nat} {y : PL} (hy : row[t]? = some y) : cntTo row K N row.length 0 y.n = N := by
  have ht := (List.getElem?_eq_some_iff.1 hy).1
  unfold cntTo
  rw [sumN, Nat.add_zero, sumN_swap]
  have e : ∀ k, k < N → sumN (fun i => ind (nd row (K + i + k)) y.n) row.length = 1 := fun k _ => by
    refine (sumN_congr (h := fun i => ind (row.getD ((K + k + i) % row.length) default).n y.n) _ fun i _ => by unfold nd; rw [show K + i + k = K + k + i by omega]).trans ?_
    refine (sumN_turn (fun q => ind (row.getD q default).n y.n) row.length (K + k)).trans ?_
    refine sumN_one (t := t) _ ht fun i hi => ?_
    rw [Nat.mod_eq_of_lt hi, List.getD_eq_getElem?_getD, List.getElem?_eq_getElem hi]
    unfold ind
    by_cases hit : i = t
    · subst hit
      rw [List.getElem?_eq_getElem hi] at hy
      simp only [Option.some.injEq] at hy
      simp [hy]
    · rw [if_neg hit, if_neg]
      exact h.unlike hit (List.getElem?_eq_getElem hi) hy
  rw [sumN_congr (h := fun _ => 1) N e]
  clear e
  induction N with
  | zero => rfl
  | succ n ih => rw [sumN, ih]
theorem rot_nd {row : List PL} {K i N k : Nat} {y : PL} (hE : 0 < row.length) (hy : (rot row ((K + i) % row.length) N)[k]? = some y) : y.n = nd row (K + i + k) := by
  have hk := (List.getElem?_eq_some_iff.1 hy).1
  rw [rot_length] at hk
  rw [rot_get hk hE, Nat.mod_add_mod] at hy
  unfold nd
  rw [List.getD_eq_getElem?_getD, hy]
  rfl
theorem and15 : ∀ m : Nat, m < 16 → bits .and .i64 (m : Int) 15 = (m : Int) := by decide
theorem may_node {x : PL} (h : x.may = true) : 0 < x.n ∧ x.n ≤ 15 := by
  simp [PL.may] at h
  omega
/-- the numbers of nodes, counted -/
def CountAt (w : World) (g : Nat) (cnt : Int → Nat) : Prop := ∃ C : Array Value, w.heap[g]? = some (.cells C 55 (0, 0)) ∧ C.size = 16 ∧ ∀ c : Nat, c < 16 → C[c]? = some (.int .i64 (cnt c : Int))
theorem CountAt.cell {w : World} {g : Nat} {cnt : Int → Nat} (h : CountAt w g cnt) {c : Nat} (hc : c < 16) : w.cell? ⟨g, c, none⟩ = some (.int .i64 (cnt c : Int)) := by
  obtain ⟨C, h1, h2, h3⟩ := h
  rw [Go.Joins.cell_of_block h1]
  exact h3 c hc
theorem CountAt.fz {w : World} {g : Nat} {cnt : Int → Nat} (h : CountAt w g cnt) (j : Nat) : w.frozen? ⟨g, j, none⟩ = false := by
  obtain ⟨C, h1, _⟩ := h
  simp [World.frozen?, h1]
theorem CountAt.lt {w : World} {g : Nat} {cnt : Int → Nat} (h : CountAt w g cnt) : g < w.heap.size := by
  obtain ⟨C, h1, _⟩ := h
  exact lt_of_block h1
theorem CountAt.below {w w' : World} {g : Nat} {cnt : Int → Nat} (h : CountAt w g cnt) (hb : Below w.heap.size w w') : CountAt w' g cnt := by
  have hl := h.lt
  obtain ⟨C, h1, h2⟩ := h
  exact ⟨C, (hb.block g hl).trans h1, h2⟩
theorem CountAt.put {w : World} {g : Nat} {cnt cnt' : Int → Nat} (h : CountAt w g cnt) {c : Nat} (hc : c < 16) (h1 : cnt' c = cnt c + 1) (h2 : ∀ d : Nat, d ≠ c → cnt' d = cnt d) : CountAt (w.setCell ⟨g, c, none⟩ (.int .i64 ((cnt c : Int) + 1))) g cnt' := by
  obtain ⟨C, h3, h4, h5⟩ := h
  refine ⟨C.setIfInBounds c (.int .i64 ((cnt c : Int) + 1)), Go.Joins.block_setCell h3 _, by simpa using h4, fun d hd => ?_⟩
  by_cases hdc : d = c
  · subst hdc
    rw [h1]
    simp [h4, hd]
  · rw [Array.getElem?_setIfInBounds, if_neg (fun e => hdc e.symm), h5 d hd, h2 d hdc]
theorem CountAt.congr {w : World} {g : Nat} {cnt cnt' : Int → Nat} (h : CountAt w g cnt) (e : ∀ c : Nat, cnt' c = cnt c) : CountAt w g cnt' := by
  obtain ⟨C, h3, h4, h5⟩ := h
  exact ⟨C, h3, h4, fun c hc => by rw [h5 c hc, e c]⟩
/-- what the law's loops go over -/
structure Rd (W : World) (w : World) (f : Int) (a : Option Addr) (E c lb g : Nat) (cnt : Int → Nat) : Prop where
  bel : Below w.heap.size w W
  box : Box25 W w.heap.size f (.slice a E c)
  one : OneFrag W lb 0 f a E c
  cnt : CountAt W g cnt
theorem Rd.below {W W' w : World} {f : Int} {a : Option Addr} {E c lb g : Nat} {cnt : Int → Nat} (h : Rd W w f a E c lb g cnt) (hb : Below W.heap.size W W') : Rd W' w f a E c lb g cnt :=
  ⟨h.bel.trans (hb.mono h.bel.size), h.box.below hb, h.one.below hb, h.cnt.below hb⟩
theorem Rd.put {W w : World} {f : Int} {a : Option Addr} {E c lb g : Nat} {cnt cnt' : Int → Nat} (h : Rd W w f a E c lb g cnt) (hg : w.heap.size < g) (hl : lb ≠ g) {d : Nat} (hd : d < 16) (h1 : cnt' d = cnt d + 1) (h2 : ∀ e : Nat, e ≠ d → cnt' e = cnt e) : Rd (W.setCell ⟨g, d, none⟩ (.int .i64 ((cnt d : Int) + 1))) w f a E c lb g cnt' :=
  ⟨h.bel.setCell (p := ⟨g, d, none⟩) (by show w.heap.size ≤ g; omega) _, h.box.other (by omega) _ _, ⟨by have := h.one.lt; simpa [World.setCell] using this, by rw [World.cell?_of_block (Below.heap_setCell W ⟨g, d, none⟩ _ lb hl)]; exact h.one.c0, by rw [World.cell?_of_block (Below.heap_setCell W ⟨g, d, none⟩ _ lb hl)]; exact h.one.c1⟩, h.cnt.put hd h1 h2⟩
theorem ps_set {W : World} {b off n c g o : Nat} {l : List PL} {v : Value} (h : PsAt W (.slice (some ⟨b, off, none⟩) n c) l) (hb : b ≠ g) : PsAt (W.setCell ⟨g, o, none⟩ v) (.slice (some ⟨b, off, none⟩) n c) l := by
  obtain ⟨a', cap, hv, h1, h2, h3, h4⟩ := h
  cases hv
  refine ⟨_, _, rfl, h1, h2, h3, fun h0 => ?_⟩
  obtain ⟨b', off', ha, hb', hc⟩ := h4 h0
  cases ha
  refine ⟨_, _, rfl, by simpa [World.setCell] using hb', fun j x hj => ⟨(hc j x hj).1, fun r hr => ?_⟩⟩
  rw [World.cell?_of_block (Below.heap_setCell W ⟨g, o, none⟩ v _ hb)]
  exact (hc j x hj).2 r hr
end Go.Proofs.Ytnfjhpdpeihheaa
