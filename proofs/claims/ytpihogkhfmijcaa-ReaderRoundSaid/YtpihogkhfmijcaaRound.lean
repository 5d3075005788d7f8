/- round: places of a row from a number on. -/
import Derived.Test.YtpihogkhfmijcaaMiss
import Derived.Laws.MakeOwn
import Derived.Laws.OwnMore
namespace Go.Proofs.Ytpihogkhfmijcaa
open Go.RowKit Go.Maps Go.Shelf
/-- w places of a row from a number on, round -/
def rot (row : List PL) (fr w : Nat) : List PL := (List.range w).map fun i => row.getD ((fr + i) % row.length) default
theorem rot_length (row : List PL) (fr w : Nat) : (rot row fr w).length = w := by simp [rot]
theorem rot_mem {row : List PL} {fr w : Nat} (h : 0 < row.length) : ∀ x ∈ rot row fr w, x ∈ row := by
  intro x hx
  simp only [rot, List.mem_map, List.mem_range] at hx
  obtain ⟨i, _, rfl⟩ := hx
  have hm := Nat.mod_lt (fr + i) h
  rw [List.getD_eq_getElem?_getD, List.getElem?_eq_getElem hm]
  exact List.getElem_mem hm
theorem zero_ok : (default : PL).ok := ⟨by decide, by decide⟩
theorem made38 (w : World) (n : Nat) (hn : n ≤ 100000) : OwnPs w.heap.size (w.alloc (.cells (madeCells #[.int .i64 0, .int .u64 0] (n * 2)) 38)) (.slice (some ⟨w.heap.size, 0, none⟩) n n) (List.replicate n default) := by
  have hl : (List.replicate n (default : PL)).length = n := List.length_replicate
  have hf := flat_len (k := 2) (enc := PL.cells) (fun _ => rfl) (List.replicate n (default : PL))
  unfold OwnPs OwnRow
  rw [hl]
  refine ⟨by rw [hf, hl], .inr ⟨w.heap.size, n, _, rfl, Nat.le_refl _, heap_alloc_new _ _, Nat.le_refl _, by unfold maxLen; omega, size_madeCells _ _, ?_⟩⟩
  apply List.ext_getElem?
  intro i
  by_cases hi : i < n * 2
  · have hd : i / 2 * 2 + i % 2 = i := by omega
    rw [List.getElem?_take_of_lt hi, Array.getElem?_toList]
    have : (madeCells #[.int .i64 0, .int .u64 0] (n * 2))[i]? = (PL.cells default)[i % 2]? := by
      unfold madeCells
      simp only [Array.getElem?_map, Array.getElem?_range]
      rw [if_pos hi]
      have h2 : i % 2 = 0 ∨ i % 2 = 1 := by omega
      rcases h2 with h2 | h2 <;> simp [h2, PL.cells, default]
    rw [this]
    have hx : (List.replicate n (default : PL))[i / 2]? = some default := by rw [List.getElem?_replicate, if_pos (by omega)]
    conv => rhs; rw [← hd]
    rw [flat_at (k := 2) (enc := PL.cells) (fun _ => rfl) _ _ _ (by omega), hx]
    rfl
  · rw [List.getElem?_eq_none (by simp [size_madeCells]; omega), List.getElem?_eq_none (by rw [hf, hl]; omega)]
theorem flat_set : ∀ (l : List PL) (i : Nat) (x : PL), ((l.flatMap PL.cells).set (i * 2) (.int .i64 x.n)).set (i * 2 + 1) (.int .u64 x.s) = (l.set i x).flatMap PL.cells
  | [], _, _ => by simp
  | y :: l, 0, x => by simp [PL.cells]
  | y :: l, i + 1, x => by
    have := flat_set l i x
    simp only [List.flatMap_cons, List.set_cons_succ, PL.cells, List.cons_append, List.nil_append]
    rw [show (i + 1) * 2 = i * 2 + 1 + 1 by omega]
    simp only [List.set_cons_succ]
    rw [← this]
/-- a place is stored -/
def put2 (w : World) (g o : Nat) (x : PL) : World := (w.setCell ⟨g, o, none⟩ (.int .i64 x.n)).setCell ⟨g, o + 1, none⟩ (.int .u64 x.s)
theorem OwnPs.set {base : Nat} {w : World} {g cap L : Nat} {l : List PL} (hL : l.length = L) (h : OwnPs base w (.slice (some ⟨g, 0, none⟩) L cap) l) (i : Nat) (x : PL) :
    OwnPs base (put2 w g (i * 2) x) (.slice (some ⟨g, 0, none⟩) L cap) (l.set i x) := by
  subst hL
  have h1 := (World.ownsRow.stored h (i * 2) (.int .i64 x.n)).1
  have h2 := (World.ownsRow.stored h1 (i * 2 + 1) (.int .u64 x.s)).1
  unfold OwnPs OwnRow
  rw [List.length_set, ← flat_set]
  exact h2
theorem put2_chg {S : Nat → Prop} {a w : World} (h : Chg S a w) (g o : Nat) (x : PL) (hg : S g ∨ a.heap.size ≤ g) : Chg S a (put2 w g o x) :=
  (h.setCell (p := ⟨g, o, none⟩) hg _).setCell (p := ⟨g, o + 1, none⟩) hg _
theorem OwnPs.has {base : Nat} {w : World} {g cap L : Nat} {l : List PL} (hL : l.length = L) (h : OwnPs base w (.slice (some ⟨g, 0, none⟩) L cap) l) (i : Nat) (hi : i < L) :
    (∃ e, w.cell? ⟨g, i * 2, none⟩ = some e) ∧ (∃ e, w.cell? ⟨g, i * 2 + 1, none⟩ = some e) ∧ w.frozen? ⟨g, i * 2, none⟩ = false ∧ w.frozen? ⟨g, i * 2 + 1, none⟩ = false := by
  subst hL
  have hf := flat_len (k := 2) (enc := PL.cells) (fun _ => rfl) l
  have a1 := World.ownsRow.cellAt h (i * 2) (by omega)
  have a2 := World.ownsRow.cellAt h (i * 2 + 1) (by omega)
  rw [List.getElem?_eq_getElem (by rw [hf]; omega)] at a1 a2
  exact ⟨⟨_, a1⟩, ⟨_, a2⟩, World.ownsRow.frozenAt h _, World.ownsRow.frozenAt h _⟩
theorem set_fill {row : List PL} {fr k w : Nat} (x : PL) (hk : k < w) (hx : row.getD ((fr + k) % row.length) default = x) : (rot row fr k ++ List.replicate (w - k) default).set k x = rot row fr (k + 1) ++ List.replicate (w - (k + 1)) default := by
  have hl := rot_length row fr k
  obtain ⟨m, hm⟩ : ∃ m, w - k = m + 1 := ⟨w - k - 1, by omega⟩
  rw [List.set_append_right _ _ (by omega), hl, Nat.sub_self, hm, List.replicate_succ, List.set_cons_zero, show w - (k + 1) = m by omega]
  unfold rot
  rw [List.range_succ, List.map_append]
  simp [← hx]
set_option maxRecDepth 100000 in
set_option maxHeartbeats 1000000 in
theorem round_any (v : Value) (row : List PL) (fr n : Nat) (w : World) (hp : PsAt w v row) (hE : 0 < row.length) (hl : row.length ≤ 100000) (hf : fr ≤ 100000) (hn : n ≤ 100000) :
    Calls Try.prog 36 #[v, .int .i64 fr, .int .i64 n] w fun e w' => e = .returned (.slice (some ⟨w.heap.size, 0, none⟩) n n) ∧ OwnPs w.heap.size w' (.slice (some ⟨w.heap.size, 0, none⟩) n n) (rot row fr n) ∧ Below w.heap.size w w' := by
  have HP := Lib.hid hp
  obtain ⟨a, cap, rfl, hlen, -⟩ := hp
  obtain ⟨E, hE'⟩ : ∃ E, row.length = E := ⟨_, rfl⟩
  rw [hE'] at hlen HP hl hE ⊢
  have HE := Lib.hid hE'
  clear hE'
  obtain ⟨i0, hi, hz0, hz1, hz2⟩ := info_parts info38
  have hmk := fun w => run_make (P := Try.prog) w 30 38 i0 _ Try.underlying30 hi hz0 .i64 .i64 (n : Int) (n : Int) (by omega) (Int.le_refl _) (by rw [hz2]; omega) (by omega)
  simp only [Int.toNat_natCast, hz1, Value.cells] at hmk
  obtain ⟨W, hW⟩ : ∃ W, W = w.alloc (.cells (madeCells #[.int .i64 0, .int .u64 0] (n * 2)) 38) := ⟨_, rfl⟩
  have hST : OwnPs w.heap.size W (.slice (some ⟨w.heap.size, 0, none⟩) n n) (rot row fr 0 ++ List.replicate (n - 0) default) ∧ Chg (fun k => w.heap.size ≤ k) w W := by
    refine ⟨by rw [hW]; exact made38 w n hn, ?_⟩
    rw [hW]
    exact (Chg.refl _ w).alloc _
  have HST := Lib.hid hST
  clear hST
  subst hW
  go_enter Try.func36, Try.ntmps36
  go_wp2
  go_loopw [13] (fun i wr => ∃ k : Nat, k ≤ n ∧ i = .int .i64 (k : Nat) ∧ Hid (OwnPs w.heap.size wr (.slice (some ⟨w.heap.size, 0, none⟩) n n) (rot row fr k ++ List.replicate (n - k) default) ∧ Chg (fun k => w.heap.size ≤ k) w wr)) (fun i _ => n - (intOf i).toNat)
  case atStart => exact ⟨0, Nat.zero_le _, rfl, HST.out⟩
  case round =>
    obtain ⟨k, hk, rfl, HR⟩ := hrel
    by_cases hlt : k < n
    · have hltz : (k : Int) < (n : Int) := by omega
      have hm := Nat.mod_lt (fr + k) hE
      obtain ⟨x, hx⟩ : ∃ x, row[(fr + k) % E]? = some x := ⟨_, List.getElem?_eq_getElem (by rw [HE.out]; exact hm)⟩
      obtain ⟨r3, r4⟩ := HR.out
      have hBw : Below w.heap.size w wr := r4.below (Nat.le_refl _) fun _ h => h
      obtain ⟨b, off, rfl, hb, hc⟩ := PsAt.cell (HP.out.below hBw) hx
      obtain ⟨c0, c1⟩ := hc wr (Below.refl _ _)
      have hxd : row.getD ((fr + k) % row.length) default = x := by rw [HE.out, List.getD_eq_getElem?_getD, hx]; rfl
      have hlen2 : (rot row fr k ++ List.replicate (n - k) (default : PL)).length = n := by rw [List.length_append, rot_length, List.length_replicate]; omega
      obtain ⟨⟨e0, d0⟩, ⟨e1, d1⟩, f0, f1⟩ := r3.has hlen2 k hlt
      have HN : Hid (OwnPs w.heap.size (put2 wr w.heap.size (k * 2) x) (.slice (some ⟨w.heap.size, 0, none⟩) n n) (rot row fr (k + 1) ++ List.replicate (n - (k + 1)) default) ∧ Chg (fun k => w.heap.size ≤ k) w (put2 wr w.heap.size (k * 2) x)) :=
        ⟨by rw [← set_fill x hlt hxd]; exact r3.set hlen2 k x, put2_chg r4 _ _ _ (.inl (Nat.le_refl _))⟩
      obtain ⟨J, hJ⟩ : ∃ J, (fr + k) % E = J := ⟨_, rfl⟩
      have hJz : ((fr : Int) + (k : Int)).tmod (E : Int) = (J : Int) := by
        rw [← hJ, Int.tmod_eq_emod_of_nonneg (by omega), Int.natCast_emod, Int.natCast_add]
      rw [hJ] at c0 c1 hm
      have hJE : (J : Int) < (E : Int) := by omega
      clear hx hxd hlen2 r3 r4 HR hc hBw hb hJ
      go_wp2
      go_roundw
      case rel => exact ⟨k + 1, by omega, by go_num, HN.out⟩
      case measure => simp [intOf]; omega
    · obtain rfl : k = n := by omega
      have HD := Lib.hid (show OwnPs w.heap.size wr (.slice (some ⟨w.heap.size, 0, none⟩) k k) (rot row fr k) ∧ Below w.heap.size w wr from ⟨by have := HR.out.1; rw [Nat.sub_self, List.replicate_zero, List.append_nil] at this; exact this, HR.out.2.below (Nat.le_refl _) fun _ h => h⟩)
      clear HR
      go_wp2
      go_ret
      exact ⟨rfl, HD.out⟩
/-- has a fragment write sets of w places -/
def hasB (row : List PL) (n : Int) : Bool := decide (1 ≤ n) && decide (n ≤ (row.length : Int))
theorem hasset_any (f n : Int) (a : Option Addr) (c : Nat) (row : List PL) (w : World) : Calls Try.prog 35 #[.agg #[.int .u64 f, .slice a row.length c], .int .i64 n] w fun e w' => e = .returned (.bool (hasB row n)) ∧ Below w.heap.size w w' := by
  have HB := Lib.hid (Go.Joins.below_alloc1 w (.cells #[.int .u64 f, .slice a row.length c] 70))
  unfold hasB
  generalize row.length = E at HB
  by_cases h : 1 ≤ n
  · rw [decide_eq_true h]
    go_enter Try.func35, Try.ntmps35
    go_wp2
    all_goals go_ret
    all_goals exact ⟨by simp_all, HB.out⟩
  · rw [decide_eq_false h]
    go_enter Try.func35, Try.ntmps35
    go_wp2
    all_goals go_ret
    all_goals exact ⟨by simp_all, HB.out⟩
end Go.Proofs.Ytpihogkhfmijcaa
