/- The document's MayFrags, of any row. The document's MayLedger, of any ledger; LongFrags. LongFrags, of any row. plan's small ones: within, isCount, isNode, mayPlace, isClosed. plan's all, of a row of places. The document: may a place be, fragments, a ledger? -/
import Derived.Test.YtpihogkhfmijcaaGreatPc
import Derived.Test.YtpihogkhfmijcaaGreatKit
import Derived.Test.YtpihogkhfmijcaaGreatPb
namespace Go.Proofs.YtpihogkhfmijcaaGreat
open Go.RowKit Go.Maps Go.Shelf
/-- places that may be, of unlike nodes -/
def MayRow (row : List PL) : Prop := (∀ x ∈ row, x.may = true) ∧ row.Pairwise fun p q => p.n ≠ q.n
theorem MayRow.take {row : List PL} (h : MayRow row) (k : Nat) : MayRow (row.take k) := ⟨fun x hx => h.1 x (List.mem_of_mem_take hx), h.2.sublist (List.take_sublist k row)⟩
theorem MayRow.snoc {l : List PL} {x : PL} : MayRow (l ++ [x]) ↔ MayRow l ∧ x.may = true ∧ ∀ y ∈ l, y.n ≠ x.n := by
  unfold MayRow
  rw [List.pairwise_append]
  constructor
  · rintro ⟨h1, h2, _, h3⟩
    exact ⟨⟨fun y hy => h1 y (List.mem_append_left _ hy), h2⟩, h1 x (by simp), fun y hy => h3 y hy x (by simp)⟩
  · rintro ⟨⟨h1, h2⟩, h3, h4⟩
    refine ⟨fun y hy => ?_, h2, by simp, fun y hy z hz => ?_⟩
    · rcases List.mem_append.1 hy with h | h
      · exact h1 y h
      · rw [List.mem_singleton] at h; rw [h]; exact h3
    · rw [List.mem_singleton] at hz; rw [hz]; exact h4 y hy
/-- a fragment that may stand there -/
def OkFr (n : Int) (L : List FV) (i : Nat) (x : FV) : Prop := x.f ≤ 9 ∧ (∀ j y, i = j + 1 → L[j]? = some y → y.f < x.f) ∧ n ≤ (x.ps.length : Int) ∧ x.ps.length ≤ 5 ∧ MayRow x.ps
/-- a row of fragments that may be -/
def MayFr (n : Int) (L : List FV) : Prop := 1 ≤ L.length ∧ L.length ≤ 6 ∧ (∀ x, L[0]? = some x → x.f = 1) ∧ ∀ i x, L[i]? = some x → OkFr n L i x
/-- what MayFrags answers -/
def MayPost (n : Int) (L : List FV) (w : World) (e : Ending) (w' : World) : Prop := ∃ R : Bool, e = .returned (.bool R) ∧ (R = true ↔ MayFr n L) ∧ Below w.heap.size w w'
end Go.Proofs.YtpihogkhfmijcaaGreat
namespace Go.Proofs.YtpihogkhfmijcaaGreat
open Go.RowKit Go.Maps Go.Shelf
/-- a ledger, and where its fragments lie -/
structure LgV where
  i : Int
  W : Int
  A : Int
  a : Option Addr
  c : Nat
  fs : List FV
  cl : Int
  last : Int
def LgV.arr (l : LgV) : Array Value := #[.int .u64 l.i, .int .i64 l.W, .int .i64 l.A, .slice l.a l.fs.length l.c, .int .i64 l.cl, .int .u64 l.last]
def LgV.val (l : LgV) : Value := .agg l.arr
/-- a ledger that may be -/
def LgV.May (l : LgV) : Prop := (1 ≤ l.i ∧ l.i ≤ 4611686018427387903) ∧ (1 ≤ l.A ∧ l.A ≤ l.W ∧ l.W ≤ 5) ∧ MayFr l.W l.fs ∧ ((l.cl = 0 ∧ l.last = 0) ∨ (l.cl = 1 ∧ l.last ≤ 8))
def LgPost (l : LgV) (w : World) (e : Ending) (w' : World) : Prop := ∃ R : Bool, e = .returned (.bool R) ∧ (R = true ↔ l.May) ∧ Below w.heap.size w w'
end Go.Proofs.YtpihogkhfmijcaaGreat
namespace Go.Proofs.YtpihogkhfmijcaaGreat
open Go.RowKit Go.Maps Go.Shelf
/-- a row too long for the law -/
def LongFr (L : List FV) : Prop := 30 < L.length ∨ ∃ x ∈ L, 30 < x.ps.length
def LongPost (L : List FV) (w : World) (e : Ending) (w' : World) : Prop := ∃ R : Bool, e = .returned (.bool R) ∧ (R = true ↔ LongFr L) ∧ Below w.heap.size w w'
set_option linter.unusedSimpArgs false in
set_option maxRecDepth 100000 in
set_option maxHeartbeats 4000000 in
theorem long_any (a : Option Addr) (c : Nat) (L : List FV) (w : World) (h : FsAt w (.slice a L.length c) L) :
    Calls Tryz.prog 18 #[.slice a L.length c] w fun e w' => LongPost L w e w' := by
  obtain ⟨N, hN⟩ : ∃ N, L.length = N := ⟨_, rfl⟩
  have HH := Lib.hid h
  have HN := Lib.hid hN
  rw [hN] at HH ⊢
  by_cases h3 : 30 < N
  · have HT := Lib.hid (show LongFr L from .inl (by omega))
    have d3 : (30 : Int) < (N : Int) := by omega
    clear h hN h3
    go_enter Tryz.func18, Tryz.ntmps18
    go_wp2
    go_ret
    exact ⟨true, rfl, by simpa using HT.out, Below.refl _ _⟩
  · have d3 : ¬ (30 : Int) < (N : Int) := by omega
    have H3 := Lib.hid h3
    clear h hN h3
    go_enter Tryz.func18, Tryz.ntmps18
    go_wp2
    go_loopw [3] (fun z wr => ∃ i : Nat, i ≤ N ∧ z = .int .i64 (i : Nat) ∧ Hid (∀ x ∈ L.take i, ¬ 30 < x.ps.length) ∧ Hid (Below w.heap.size w wr)) (fun z _ => N - (intOf z).toNat)
    case atStart => exact ⟨0, Nat.zero_le _, rfl, Lib.hid (show ∀ x ∈ L.take 0, ¬ 30 < x.ps.length by simp), Below.refl _ _⟩
    case round =>
      obtain ⟨i, hi, rfl, HG, HB⟩ := hrel
      by_cases hlt : i < N
      · have hltz : (i : Int) < (N : Int) := by omega
        obtain ⟨x, hx⟩ : ∃ x, L[i]? = some x := ⟨_, List.getElem?_eq_getElem (by rw [HN.out]; exact hlt)⟩
        have HXI := Lib.hid hx
        obtain ⟨b', off', he, -, -, hc⟩ := FsAt.cell (HH.out.below HB.out) hx
        cases he
        obtain ⟨-, c1⟩ := hc wr (Below.refl _ _)
        obtain ⟨E, hE⟩ : ∃ E, x.ps.length = E := ⟨_, rfl⟩
        rw [hE] at c1
        have HE := Lib.hid hE
        clear hc hx hE
        by_cases hl : 30 < E
        · have HT := Lib.hid (show LongFr L from .inr ⟨x, List.mem_of_getElem? HXI.out, by rw [HE.out]; exact hl⟩)
          have dl : decide ((30 : Int) < (E : Int)) = true := decide_eq_true (by omega)
          have dl2 : decide ((E : Int) > (30 : Int)) = true := decide_eq_true (by omega)
          go_wp2
          go_ret
          exact ⟨true, rfl, by simpa using HT.out, HB.out⟩
        · have dl : decide ((30 : Int) < (E : Int)) = false := decide_eq_false (by omega)
          have dl2 : decide ((E : Int) > (30 : Int)) = false := decide_eq_false (by omega)
          have HGN := Lib.hid (show ∀ y ∈ L.take (i + 1), ¬ 30 < y.ps.length from fun y hy => by
            rw [take_snoc HXI.out] at hy
            rcases List.mem_append.1 hy with h | h
            · exact HG.out y h
            · rw [List.mem_singleton] at h; rw [h, HE.out]; exact hl)
          go_wp2
          go_roundw
          case rel => exact ⟨i + 1, by omega, by go_num, HGN.out, HB.out⟩
          case measure => simp [intOf]; omega
      · obtain rfl : i = N := by omega
        have HF := Lib.hid (show ¬ LongFr L from fun h => by
          rcases h with h | ⟨x, hx, h⟩
          · exact H3.out (by rw [HN.out] at h; exact h)
          · exact HG.out x (by rw [take_all HN.out]; exact hx) h)
        go_wp2
        go_ret
        exact ⟨false, rfl, by simpa using HF.out, HB.out⟩
end Go.Proofs.YtpihogkhfmijcaaGreat
namespace Go.Proofs.YtpihogkhfmijcaaGreat
open Go.RowKit Go.Maps Go.Shelf
theorem within_i (x a b : Int) (w : World) : Calls Tryz.prog 39 #[.int .i64 x, .int .i64 a, .int .i64 b] w fun e w' => e = .returned (.bool (decide (a ≤ x) && decide (x ≤ b))) ∧ w' = w := by
  by_cases h1 : a ≤ x <;> by_cases h2 : x ≤ b
  all_goals go_enter Tryz.func39, Tryz.ntmps39
  all_goals go_wp2
  all_goals go_ret
  all_goals exact ⟨by simp_all, rfl⟩
theorem within_u (x a b : Int) (w : World) : Calls Tryz.prog 55 #[.int .u64 x, .int .u64 a, .int .u64 b] w fun e w' => e = .returned (.bool (decide (a ≤ x) && decide (x ≤ b))) ∧ w' = w := by
  by_cases h1 : a ≤ x <;> by_cases h2 : x ≤ b
  all_goals go_enter Tryz.func55, Tryz.ntmps55
  all_goals go_wp2
  all_goals go_ret
  all_goals exact ⟨by simp_all, rfl⟩
theorem isCount_any (x : Int) (w : World) : Calls Tryz.prog 38 #[.int .u64 x] w fun e w' => e = .returned (.bool (decide (1 ≤ x) && decide (x ≤ 4611686018427387903))) ∧ w' = w := by
  have HW := Lib.hid (within_u x 1 4611686018427387903 w)
  obtain ⟨b, hb⟩ : ∃ b, (decide (1 ≤ x) && decide (x ≤ 4611686018427387903)) = b := ⟨_, rfl⟩
  rw [hb] at HW ⊢
  clear hb
  go_enter Tryz.func38, Tryz.ntmps38
  go_wp2_with fail
  refine HW.out.mono ?_
  rintro e w1 ⟨rfl, rfl⟩
  go_wp2
  go_ret
  exact ⟨rfl, rfl⟩
theorem isNode_any (x : Int) (w : World) : Calls Tryz.prog 80 #[.int .i64 x] w fun e w' => e = .returned (.bool (decide (1 ≤ x) && decide (x ≤ 15))) ∧ w' = w := by
  have HW := Lib.hid (within_i x 1 15 w)
  obtain ⟨b, hb⟩ : ∃ b, (decide (1 ≤ x) && decide (x ≤ 15)) = b := ⟨_, rfl⟩
  rw [hb] at HW ⊢
  clear hb
  go_enter Tryz.func80, Tryz.ntmps80
  go_wp2_with fail
  refine HW.out.mono ?_
  rintro e w1 ⟨rfl, rfl⟩
  go_wp2
  go_ret
  exact ⟨rfl, rfl⟩
theorem PL.may_eq (p : PL) : p.may = ((decide (1 ≤ p.n) && decide (p.n ≤ 15)) && (decide (1 ≤ p.s) && decide (p.s ≤ 4611686018427387903))) := rfl
theorem planPlace_any (p : PL) (w : World) : Calls Tryz.prog 71 #[p.val] w fun e w' => e = .returned (.bool p.may) ∧ Below w.heap.size w w' := by
  rw [p.may_eq]
  obtain ⟨n, s⟩ := p
  have HB := Lib.hid (Go.Joins.below_alloc1 w (.cells #[.int .i64 n, .int .u64 s] 40))
  have HN := Lib.hid (isNode_any n (w.alloc (.cells #[.int .i64 n, .int .u64 s] 40)))
  have HC := Lib.hid (isCount_any s (w.alloc (.cells #[.int .i64 n, .int .u64 s] 40)))
  dsimp only
  obtain ⟨b, hb⟩ : ∃ b, (decide (1 ≤ n) && decide (n ≤ 15)) = b := ⟨_, rfl⟩
  obtain ⟨b2, hb2⟩ : ∃ b, (decide (1 ≤ s) && decide (s ≤ 4611686018427387903)) = b := ⟨_, rfl⟩
  rw [hb] at HN ⊢
  rw [hb2] at HC ⊢
  clear hb hb2
  cases b
  · go_enter Tryz.func71, Tryz.ntmps71
    go_wp2_with fail
    refine HN.out.mono ?_
    rintro e w1 ⟨rfl, rfl⟩
    go_wp2
    go_ret
    exact ⟨rfl, HB.out⟩
  · go_enter Tryz.func71, Tryz.ntmps71
    go_wp2_with fail
    refine HN.out.mono ?_
    rintro e w1 ⟨rfl, rfl⟩
    go_wp2_with fail
    refine HC.out.mono ?_
    rintro e w1 ⟨rfl, rfl⟩
    go_wp2
    go_ret
    exact ⟨rfl, HB.out⟩
theorem isClosed_any (l : LgV) (w : World) : Calls Tryz.prog 41 #[l.val] w fun e w' => e = .returned (.bool (l.cl == 1)) ∧ Below w.heap.size w w' := by
  obtain ⟨i, W, A, a, c, fs, cl, last⟩ := l
  obtain ⟨N, hN⟩ : ∃ N, fs.length = N := ⟨_, rfl⟩
  have HB := Lib.hid (Go.Joins.below_alloc1 w (.cells #[.int .u64 i, .int .i64 W, .int .i64 A, .slice a N c, .int .i64 cl, .int .u64 last] 25))
  simp only [LgV.val, LgV.arr]
  rw [hN]
  clear hN
  go_enter Tryz.func41, Tryz.ntmps41
  go_wp2
  go_ret
  exact ⟨rfl, HB.out⟩
end Go.Proofs.YtpihogkhfmijcaaGreat
namespace Go.Proofs.YtpihogkhfmijcaaGreat
open Go.RowKit Go.Maps Go.Shelf
theorem not_may {B : Nat} (x : PL) (W : World) (hB : W.cell? ⟨B, 0, none⟩ = some (.func (.func 71) #[] #[])) :
    Calls Tryz.prog 79 #[x.val, .pointer (some ⟨B, 0, none⟩)] W fun e w' => e = .returned (.bool (!x.may)) ∧ Below W.heap.size W w' := by
  have hbl : B < W.heap.size := World.block_lt_of_cell? W _ hB
  have HB := Lib.hid (Go.Joins.below_alloc1 W (.cells #[.int .i64 x.n, .int .u64 x.s] 40))
  have hB2 : (W.alloc (.cells #[.int .i64 x.n, .int .u64 x.s] 40)).cell? ⟨B, 0, none⟩ = some (.func (.func 71) #[] #[]) := (HB.out.cell (p := ⟨B, 0, none⟩) hbl).trans hB
  have HP := Lib.hid (planPlace_any x (W.alloc (.cells #[.int .i64 x.n, .int .u64 x.s] 40)))
  have hen := enters_of (P := Tryz.prog) (f := 71) Tryz.func71 (by kernel_rfl) rfl
  obtain ⟨m, hm⟩ : ∃ m, x.may = m := ⟨_, rfl⟩
  rw [hm] at HP ⊢
  clear hm hB
  go_enter Tryz.func79, Tryz.ntmps79
  go_wp2_with fail
  refine HP.out.mono ?_
  rintro e w1 ⟨rfl, hb⟩
  have HF := Lib.hid (HB.out.trans (hb.mono HB.out.size))
  clear hb
  go_wp2
  go_ret
  exact ⟨rfl, HF.out⟩
theorem asks111 {B : Nat} (W : World) (hB : W.cell? ⟨B, 0, none⟩ = some (.func (.func 71) #[] #[])) : AsksAt W 79 (.pointer (some ⟨B, 0, none⟩)) (fun x => !x.may) :=
  ⟨enters_of Tryz.func79 (by kernel_rfl) rfl, fun W' hW x _ => not_may x W' ((hW.cell (p := ⟨B, 0, none⟩) (World.block_lt_of_cell? W _ hB)).trans hB)⟩
theorem allP_any (v : Value) (l : List PL) (w : World) (hp : PsAt w v l) :
    Calls Tryz.prog 70 #[v, .func (.func 71) #[] #[]] w fun e w' => e = .returned (.bool (l.all PL.may)) ∧ Below w.heap.size w w' := by
  have HB := Lib.hid (Go.Joins.below_alloc1 w (.cells #[.func (.func 71) #[] #[]] 85))
  have HC := Lib.hid (contains_any v l 79 (.pointer (some ⟨w.heap.size, 0, none⟩)) (fun x => !x.may) _ (hp.below HB.out) (asks111 _ (by rw [World.cell?_alloc_new]; rfl)))
  obtain ⟨m, hm⟩ : ∃ m, (l.any fun x => !x.may) = m := ⟨_, rfl⟩
  have hall : l.all PL.may = !m := by rw [← hm]; simp [List.all_eq_not_any_not]
  rw [hall]
  rw [hm] at HC
  have hmf : ∀ (fn : Fn) (first cap : Array Value) (w : World), (Instr.makeFunc fn first cap).run Tryz.prog w = .ok (.func fn first cap) w := fun _ _ _ _ => rfl
  clear hm hall hp
  go_enter Tryz.func70, Tryz.ntmps70
  go_wp2_with fail
  refine HC.out.mono ?_
  rintro e w1 ⟨rfl, hb⟩
  have HF := Lib.hid (HB.out.trans (hb.mono HB.out.size))
  clear hb
  go_wp2
  go_ret
  exact ⟨rfl, HF.out⟩
end Go.Proofs.YtpihogkhfmijcaaGreat
namespace Go.Proofs.YtpihogkhfmijcaaGreat
open Go.RowKit Go.Maps Go.Shelf
theorem mayPlace_any (x : PL) (w : World) : Calls Tryz.prog 63 #[x.val] w fun e w' => e = .returned (.bool x.may) ∧ Below w.heap.size w w' := by
  obtain ⟨n, s⟩ := x
  have HB := Lib.hid (Go.Joins.below_alloc1 w (.cells #[.int .i64 n, .int .u64 s] 40))
  simp only [PL.may]
  go_enter Tryz.func63, Tryz.ntmps63
  go_wp2
  all_goals go_ret
  all_goals refine ⟨?_, HB.out⟩
  all_goals simp_all
  all_goals (try omega)
set_option linter.unusedSimpArgs false in
set_option maxRecDepth 100000 in
set_option maxHeartbeats 8000000 in
theorem mayf_any (n : Int) (a : Option Addr) (c : Nat) (L : List FV) (w : World) (h : FsAt w (.slice a L.length c) L) :
    Calls Tryz.prog 46 #[.int .i64 n, .slice a L.length c] w fun e w' => MayPost n L w e w' := by
  obtain ⟨N, hN⟩ : ∃ N, L.length = N := ⟨_, rfl⟩
  have HH := Lib.hid h
  have HN := Lib.hid hN
  rw [hN] at HH ⊢
  by_cases h1 : N < 1
  · have HF := Lib.hid (show ¬ MayFr n L from fun h => by have := h.1; omega)
    have d1 : decide ((N : Int) < 1) = true := decide_eq_true (by omega)
    clear h hN h1
    go_enter Tryz.func46, Tryz.ntmps46
    go_wp2
    go_ret
    exact ⟨false, rfl, by simpa using HF.out, Below.refl _ _⟩
  · by_cases h6 : 6 < N
    · have HF := Lib.hid (show ¬ MayFr n L from fun h => by have := h.2.1; omega)
      have d1 : ¬ (N : Int) < 1 := by omega
      have d6 : (6 : Int) < (N : Int) := by omega
      clear h hN h1 h6
      go_enter Tryz.func46, Tryz.ntmps46
      go_wp2
      go_ret
      exact ⟨false, rfl, by simpa using HF.out, Below.refl _ _⟩
    · obtain ⟨x0, hx0⟩ : ∃ x, L[0]? = some x := ⟨_, List.getElem?_eq_getElem (by omega)⟩
      obtain ⟨b, off, rfl, -, -, hc⟩ := FsAt.cell h hx0
      obtain ⟨g0, -⟩ := hc w (Below.refl _ _)
      rw [Nat.zero_mul, Nat.add_zero] at g0
      have HX0 := Lib.hid hx0
      have d1 : ¬ (N : Int) < 1 := by omega
      have d6 : ¬ (6 : Int) < (N : Int) := by omega
      have d0 : (0 : Int) < (N : Int) := by omega
      have HN6 := Lib.hid (And.intro h1 h6)
      by_cases hf0 : x0.f = 1
      · rw [hf0] at g0
        have HF0 := Lib.hid hf0
        clear h hN h1 h6 hx0 hc hf0
        go_enter Tryz.func46, Tryz.ntmps46
        go_wp2
        go_loopw [5] (fun z wr => ∃ i : Nat, i ≤ N ∧ z = .int .i64 (i : Nat) ∧ Hid (∀ t, t < i → ∀ x, L[t]? = some x → OkFr n L t x) ∧ Hid (Below w.heap.size w wr)) (fun z _ => N - (intOf z).toNat)
        case atStart => exact ⟨0, Nat.zero_le _, rfl, (fun t ht => by omega), Below.refl _ _⟩
        case round =>
          obtain ⟨i, hi, rfl, HG, HB⟩ := hrel
          by_cases hlt : i < N
          · have hltz : (i : Int) < (N : Int) := by omega
            obtain ⟨x, hx⟩ : ∃ x, L[i]? = some x := ⟨_, List.getElem?_eq_getElem (by rw [HN.out]; exact hlt)⟩
            have HXI := Lib.hid hx
            have hps := (RowAt.each (HH.out.below HB.out) x (List.mem_of_getElem? hx)).2
            have HP0 := Lib.hid (show PsAt w (.slice x.a x.ps.length x.c) x.ps from (RowAt.each HH.out x (List.mem_of_getElem? hx)).2)
            obtain ⟨b', off', he, -, -, hc⟩ := FsAt.cell (HH.out.below HB.out) hx
            cases he
            obtain ⟨c0, c1⟩ := hc wr (Below.refl _ _)
            have HBD := Lib.hid (fun q => drewN_below HB.out q)
            clear hc hps g0 d1 d6 d0
            rcases Nat.eq_zero_or_pos i with hi0 | hip
            · subst hi0
              obtain ⟨f, xa, xc, row⟩ := x
              dsimp only at c0 c1 HP0
              obtain ⟨E, hE⟩ : ∃ E, row.length = E := ⟨_, rfl⟩
              rw [hE] at c1 HP0
              have HP := HP0
              have HE := Lib.hid hE
              clear hE hx HP0
              simp only [Nat.zero_mul, Nat.add_zero] at c0 c1
              have z0 : (0 : Int) < (N : Int) := by omega
              by_cases h9 : (9 : Int) < f
              · have d9 : decide ((9 : Int) < f) = true := decide_eq_true (by omega)
                have d92 : decide (f > (9 : Int)) = true := decide_eq_true (by omega)
                have HF := Lib.hid (show ¬ MayFr n L from fun h => by
                  have hk := h.2.2.2 0 _ HXI.out
                  have := hk.1; dsimp only at this; omega)
                go_wp2_with fail
                go_quiet (fail)
                go_wp2
                go_ret
                exact ⟨false, rfl, by simpa using HF.out, HBD.out _⟩
              · have d9 : decide ((9 : Int) < f) = false := decide_eq_false (by omega)
                have d92 : decide (f > (9 : Int)) = false := decide_eq_false (by omega)
                by_cases hn : (E : Int) < n
                · have dn : decide ((E : Int) < n) = true := decide_eq_true (by omega)
                  have dn2 : decide (n > (E : Int)) = true := decide_eq_true (by omega)
                  have HF := Lib.hid (show ¬ MayFr n L from fun h => by
                    have hk := h.2.2.2 0 _ HXI.out
                    have := hk.2.2.1; dsimp only at this; have h8 := HE.out; omega)
                  go_wp2_with fail
                  go_quiet (fail)
                  go_wp2
                  go_ret
                  exact ⟨false, rfl, by simpa using HF.out, HBD.out _⟩
                · have dn : decide ((E : Int) < n) = false := decide_eq_false (by omega)
                  have dn2 : decide (n > (E : Int)) = false := decide_eq_false (by omega)
                  by_cases h5 : (5 : Int) < (E : Int)
                  · have d5 : decide ((5 : Int) < (E : Int)) = true := decide_eq_true (by omega)
                    have d52 : decide ((E : Int) > (5 : Int)) = true := decide_eq_true (by omega)
                    have HF := Lib.hid (show ¬ MayFr n L from fun h => by
                      have hk := h.2.2.2 0 _ HXI.out
                      have := hk.2.2.2.1; dsimp only at this; have h8 := HE.out; omega)
                    go_wp2_with fail
                    go_quiet (fail)
                    go_wp2
                    go_ret
                    exact ⟨false, rfl, by simpa using HF.out, HBD.out _⟩
                  · have d5 : decide ((5 : Int) < (E : Int)) = false := decide_eq_false (by omega)
                    have d52 : decide ((E : Int) > (5 : Int)) = false := decide_eq_false (by omega)
                    skip
                    have HGOOD := Lib.hid (show MayRow row → ∀ t, t < 0 + 1 → ∀ z, L[t]? = some z → OkFr n L t z from fun hmr t ht z hz => by
                      rcases Nat.lt_or_ge t 0 with h | h
                      · exact HG.out t h z hz
                      · obtain rfl : t = 0 := by omega
                        have e := HXI.out
                        rw [hz] at e
                        cases e
                        exact ⟨by dsimp only; omega, (fun q _ hq _ => by omega), by dsimp only; have h8 := HE.out; omega, by dsimp only; have h8 := HE.out; omega, hmr⟩)
                    go_wp2_with fail
                    go_quiet (fail)
                    have HBM := Lib.hid (HBD.out nq)
                    go_wp2
                    go_loopw [7] (fun z wx => ∃ k : Nat, k ≤ E ∧ z = .int .i64 (k : Nat) ∧ Hid (MayRow (row.take k)) ∧ Hid (Below w.heap.size w wx)) (fun z _ => E - (intOf z).toNat)
                    case atStart => exact ⟨0, Nat.zero_le _, rfl, Lib.hid (show MayRow (row.take 0) from ⟨by simp, by simp⟩), HBM.out⟩
                    case round =>
                      obtain ⟨k, hk, rfl, HK, HB2⟩ := hrel
                      obtain ⟨wk, rfl⟩ : ∃ wk : World, wk = wr := ⟨_, rfl⟩
                      by_cases hlt : k < E
                      · have hltz : (k : Int) < (E : Int) := by omega
                        obtain ⟨y, hy⟩ : ∃ y, row[k]? = some y := ⟨_, List.getElem?_eq_getElem (by rw [HE.out]; exact hlt)⟩
                        obtain ⟨b2, o2, rfl, hb2, -⟩ := PsAt.cell (HP.out.below HB2.out) hy
                        have HCX := Lib.hid (show ∀ j z, row[j]? = some z → ∀ W, Below w.heap.size w W → W.cell? ⟨b2, o2 + j * 2, none⟩ = some (.int .i64 z.n) ∧ W.cell? ⟨b2, o2 + j * 2 + 1, none⟩ = some (.int .u64 z.s) from fun j z hz W hW => by
                          obtain ⟨b', off', he, _, hc⟩ := PsAt.cell (HP.out.below hW) hz
                          cases he
                          exact hc W (Below.refl _ _))
                        have HY := Lib.hid hy
                        obtain ⟨e0, e1⟩ := HCX.out k y hy wk HB2.out
                        have HMP := Lib.hid (mayPlace_any y wk)
                        have HSN := Lib.hid (show MayRow (row.take (k + 1)) ↔ MayRow (row.take k) ∧ y.may = true ∧ ∀ z ∈ row.take k, z.n ≠ y.n by rw [take_snoc hy]; exact MayRow.snoc)
                        clear hy hb2
                        cases hmay : y.may
                        · rw [hmay] at HMP
                          have HF := Lib.hid (show ¬ MayFr n L from fun h => by
                            have := (HSN.out.1 ((h.2.2.2 0 _ HXI.out).2.2.2.2.take (k + 1))).2.1
                            rw [hmay] at this
                            cases this)
                          clear hmay
                          go_wp2_with fail
                          refine HMP.out.mono ?_
                          rintro e w3 ⟨rfl, hb3⟩
                          have HB3 := Lib.hid (HB2.out.trans (hb3.mono HB2.out.size))
                          clear hb3
                          go_wp2
                          go_ret
                          exact ⟨false, rfl, by simpa using HF.out, HB3.out⟩
                        · rw [hmay] at HMP
                          have HMY := Lib.hid hmay
                          clear hmay
                          go_wp2_with fail
                          refine HMP.out.mono ?_
                          rintro e w3 ⟨rfl, hb3⟩
                          have HB3 := Lib.hid (HB2.out.trans (hb3.mono HB2.out.size))
                          clear hb3
                          go_wp2
                          go_loopw [8] (fun j wx => ∃ t : Nat, t ≤ k ∧ j = .int .i64 (t : Nat) ∧ Hid (∀ z ∈ row.take t, z.n ≠ y.n) ∧ Hid (Below w.heap.size w wx)) (fun j _ => k - (intOf j).toNat)
                          case atStart => exact ⟨0, Nat.zero_le _, rfl, (fun z hz => by simp at hz), HB3.out⟩
                          case round =>
                            obtain ⟨t, ht, rfl, HT, HB4⟩ := hrel
                            by_cases htk : t < k
                            · have htz : (t : Int) < (k : Int) := by omega
                              have htz' : (t : Int) < (E : Int) := by omega
                              obtain ⟨z, hz⟩ : ∃ z, row[t]? = some z := ⟨_, List.getElem?_eq_getElem (by rw [HE.out]; omega)⟩
                              obtain ⟨e0, e1⟩ := HCX.out k y HY.out wr HB4.out
                              obtain ⟨f0, f1⟩ := HCX.out t z hz wr HB4.out
                              have HYM := Lib.hid hz
                              have HBD4 := Lib.hid (fun q => drewN_below HB4.out q)
                              clear hz
                              by_cases hyx : z.n = y.n
                              · have HF := Lib.hid (show ¬ MayFr n L from fun h =>
                                  (HSN.out.1 ((h.2.2.2 0 _ HXI.out).2.2.2.2.take (k + 1))).2.2 z (List.mem_of_getElem? (show (row.take k)[t]? = some z by rw [List.getElem?_take_of_lt htk]; exact HYM.out)) hyx)
                                have hyb : (z.n == y.n) = true := by simpa using hyx
                                clear hyx
                                go_wp2_with fail
                                go_quiet (fail)
                                go_wp2
                                go_ret
                                exact ⟨false, rfl, by simpa using HF.out, HBD4.out _⟩
                              · have hyb : (z.n == y.n) = false := by simpa using hyx
                                have HTN := Lib.hid (show ∀ q ∈ row.take (t + 1), q.n ≠ y.n from fun q hq => by
                                  rw [take_snoc HYM.out] at hq
                                  rcases List.mem_append.1 hq with h | h
                                  · exact HT.out q h
                                  · rw [List.mem_singleton] at h; rw [h]; exact hyx)
                                clear hyx
                                go_wp2_with fail
                                go_quiet (fail)
                                go_wp2
                                go_roundw
                                case rel => exact ⟨t + 1, by omega, by go_num, HTN.out, HBD4.out _⟩
                                case measure => simp [intOf]; omega
                            · obtain rfl : t = k := by omega
                              have HMK := Lib.hid (HSN.out.2 ⟨HK.out, HMY.out, HT.out⟩)
                              go_wp2
                              go_roundw
                              case rel => exact ⟨t + 1, by omega, by go_num, HMK.out, HB4.out⟩
                              case measure => simp [intOf]; omega
                      · obtain rfl : k = E := by omega
                        have HMR := Lib.hid (HGOOD.out (by have := HK.out; rw [take_all HE.out] at this; exact this))
                        have hb6 : N ≤ 6 := by have := HN6.out.2; omega
                        go_wp2
                        go_roundw
                        case rel => exact ⟨0 + 1, by omega, by go_num, HMR.out, HB2.out⟩
                        case measure => simp [intOf]; omega
            · obtain ⟨j, rfl⟩ : ∃ j, i = j + 1 := ⟨i - 1, by omega⟩
              obtain ⟨xp, hxp⟩ : ∃ x, L[j]? = some x := ⟨_, List.getElem?_eq_getElem (by rw [HN.out]; omega)⟩
              have HXP := Lib.hid hxp
              obtain ⟨b', off', he, -, -, hcp⟩ := FsAt.cell (HH.out.below HB.out) hxp
              cases he
              obtain ⟨p0, -⟩ := hcp wr (Below.refl _ _)
              obtain ⟨fp, hfp⟩ : ∃ fp, xp.f = fp := ⟨_, rfl⟩
              rw [hfp] at p0
              have HFP := Lib.hid hfp
              have hjz : (j : Int) < (N : Int) := by omega
              have hjp : (0 : Int) < ((j + 1 : Nat) : Int) := by omega
              have q1 : (j : Int) + 1 < (N : Int) := by omega
              have q2 : (0 : Int) ≤ (j : Int) + 1 := by omega
              have q4 : decide ((j : Int) + 1 > (0 : Int)) = true := decide_eq_true (by omega)
              have q5 : decide ((0 : Int) < (j : Int) + 1) = true := decide_eq_true (by omega)
              have q6 : ((j : Int) + 1).toNat = j + 1 := by omega
              have q7 : (0 : Int) ≤ (j : Int) := by omega
              have q8 : IntKind.i64.wrap ((j : Int) + 1 - 1) = (j : Int) := by rw [Int.add_sub_cancel]; exact wrap_small _ (by omega) (by have := HN6.out.2; omega)
              have q9 : IntKind.i64.wrap (j : Int) = (j : Int) := wrap_small _ (by omega) (by have := HN6.out.2; omega)
              obtain ⟨f, xa, xc, row⟩ := x
              dsimp only at c0 c1 HP0
              obtain ⟨E, hE⟩ : ∃ E, row.length = E := ⟨_, rfl⟩
              rw [hE] at c1 HP0
              have HP := HP0
              have HE := Lib.hid hE
              have HPV0 := Lib.hid (show ∀ q zq, j + 1 = q + 1 → L[q]? = some zq → zq.f = fp from fun q zq hq hz2 => by
                obtain rfl : j = q := by omega
                rw [hxp] at hz2
                cases hz2
                exact hfp)
              clear hE hx HP0 hxp hcp hfp hip
              by_cases h9 : (9 : Int) < f
              · have d9 : decide ((9 : Int) < f) = true := decide_eq_true (by omega)
                have d92 : decide (f > (9 : Int)) = true := decide_eq_true (by omega)
                have HF := Lib.hid (show ¬ MayFr n L from fun h => by
                  have hk := h.2.2.2 (j + 1) _ HXI.out
                  have := hk.1; dsimp only at this; omega)
                go_wp2_with fail
                go_quiet (fail)
                go_wp2
                go_ret
                exact ⟨false, rfl, by simpa using HF.out, HBD.out _⟩
              · have d9 : decide ((9 : Int) < f) = false := decide_eq_false (by omega)
                have d92 : decide (f > (9 : Int)) = false := decide_eq_false (by omega)
                by_cases hp : f ≤ fp
                · have dp : decide (f ≤ fp) = true := decide_eq_true (by omega)
                  have dp2 : decide (fp ≥ f) = true := decide_eq_true (by omega)
                  have HF := Lib.hid (show ¬ MayFr n L from fun h => by
                    have hk := h.2.2.2 (j + 1) _ HXI.out
                    have h7 := hk.2.1 j xp rfl HXP.out; have h8 := HFP.out; dsimp only at h7; omega)
                  go_wp2_with fail
                  go_quiet (fail)
                  go_wp2
                  go_ret
                  exact ⟨false, rfl, by simpa using HF.out, HBD.out _⟩
                · have dp : decide (f ≤ fp) = false := decide_eq_false (by omega)
                  have dp2 : decide (fp ≥ f) = false := decide_eq_false (by omega)
                  by_cases hn : (E : Int) < n
                  · have dn : decide ((E : Int) < n) = true := decide_eq_true (by omega)
                    have dn2 : decide (n > (E : Int)) = true := decide_eq_true (by omega)
                    have HF := Lib.hid (show ¬ MayFr n L from fun h => by
                      have hk := h.2.2.2 (j + 1) _ HXI.out
                      have := hk.2.2.1; dsimp only at this; have h8 := HE.out; omega)
                    go_wp2_with fail
                    go_quiet (fail)
                    go_wp2
                    go_ret
                    exact ⟨false, rfl, by simpa using HF.out, HBD.out _⟩
                  · have dn : decide ((E : Int) < n) = false := decide_eq_false (by omega)
                    have dn2 : decide (n > (E : Int)) = false := decide_eq_false (by omega)
                    by_cases h5 : (5 : Int) < (E : Int)
                    · have d5 : decide ((5 : Int) < (E : Int)) = true := decide_eq_true (by omega)
                      have d52 : decide ((E : Int) > (5 : Int)) = true := decide_eq_true (by omega)
                      have HF := Lib.hid (show ¬ MayFr n L from fun h => by
                        have hk := h.2.2.2 (j + 1) _ HXI.out
                        have := hk.2.2.2.1; dsimp only at this; have h8 := HE.out; omega)
                      go_wp2_with fail
                      go_quiet (fail)
                      go_wp2
                      go_ret
                      exact ⟨false, rfl, by simpa using HF.out, HBD.out _⟩
                    · have d5 : decide ((5 : Int) < (E : Int)) = false := decide_eq_false (by omega)
                      have d52 : decide ((E : Int) > (5 : Int)) = false := decide_eq_false (by omega)
                      have HPV := Lib.hid (show ∀ q zq, j + 1 = q + 1 → L[q]? = some zq → zq.f < f from fun q zq hq hz2 => by have := HPV0.out q zq hq hz2; omega)
                      have HGOOD := Lib.hid (show MayRow row → ∀ t, t < j + 1 + 1 → ∀ z, L[t]? = some z → OkFr n L t z from fun hmr t ht z hz => by
                        rcases Nat.lt_or_ge t (j + 1) with h | h
                        · exact HG.out t h z hz
                        · obtain rfl : t = j + 1 := by omega
                          have e := HXI.out
                          rw [hz] at e
                          cases e
                          exact ⟨by dsimp only; omega, (fun q zq hq hz2 => HPV.out q zq hq hz2), by dsimp only; have h8 := HE.out; omega, by dsimp only; have h8 := HE.out; omega, hmr⟩)
                      go_wp2_with fail
                      go_quiet (fail)
                      have HBM := Lib.hid (HBD.out nq)
                      go_wp2
                      go_loopw [7] (fun z wx => ∃ k : Nat, k ≤ E ∧ z = .int .i64 (k : Nat) ∧ Hid (MayRow (row.take k)) ∧ Hid (Below w.heap.size w wx)) (fun z _ => E - (intOf z).toNat)
                      case atStart => exact ⟨0, Nat.zero_le _, rfl, Lib.hid (show MayRow (row.take 0) from ⟨by simp, by simp⟩), HBM.out⟩
                      case round =>
                        obtain ⟨k, hk, rfl, HK, HB2⟩ := hrel
                        obtain ⟨wk, rfl⟩ : ∃ wk : World, wk = wr := ⟨_, rfl⟩
                        by_cases hlt : k < E
                        · have hltz : (k : Int) < (E : Int) := by omega
                          obtain ⟨y, hy⟩ : ∃ y, row[k]? = some y := ⟨_, List.getElem?_eq_getElem (by rw [HE.out]; exact hlt)⟩
                          obtain ⟨b2, o2, rfl, hb2, -⟩ := PsAt.cell (HP.out.below HB2.out) hy
                          have HCX := Lib.hid (show ∀ j z, row[j]? = some z → ∀ W, Below w.heap.size w W → W.cell? ⟨b2, o2 + j * 2, none⟩ = some (.int .i64 z.n) ∧ W.cell? ⟨b2, o2 + j * 2 + 1, none⟩ = some (.int .u64 z.s) from fun j z hz W hW => by
                            obtain ⟨b', off', he, _, hc⟩ := PsAt.cell (HP.out.below hW) hz
                            cases he
                            exact hc W (Below.refl _ _))
                          have HY := Lib.hid hy
                          obtain ⟨e0, e1⟩ := HCX.out k y hy wk HB2.out
                          have HMP := Lib.hid (mayPlace_any y wk)
                          have HSN := Lib.hid (show MayRow (row.take (k + 1)) ↔ MayRow (row.take k) ∧ y.may = true ∧ ∀ z ∈ row.take k, z.n ≠ y.n by rw [take_snoc hy]; exact MayRow.snoc)
                          clear hy hb2
                          cases hmay : y.may
                          · rw [hmay] at HMP
                            have HF := Lib.hid (show ¬ MayFr n L from fun h => by
                              have := (HSN.out.1 ((h.2.2.2 (j + 1) _ HXI.out).2.2.2.2.take (k + 1))).2.1
                              rw [hmay] at this
                              cases this)
                            clear hmay
                            go_wp2_with fail
                            refine HMP.out.mono ?_
                            rintro e w3 ⟨rfl, hb3⟩
                            have HB3 := Lib.hid (HB2.out.trans (hb3.mono HB2.out.size))
                            clear hb3
                            go_wp2
                            go_ret
                            exact ⟨false, rfl, by simpa using HF.out, HB3.out⟩
                          · rw [hmay] at HMP
                            have HMY := Lib.hid hmay
                            clear hmay
                            go_wp2_with fail
                            refine HMP.out.mono ?_
                            rintro e w3 ⟨rfl, hb3⟩
                            have HB3 := Lib.hid (HB2.out.trans (hb3.mono HB2.out.size))
                            clear hb3
                            go_wp2
                            go_loopw [8] (fun j wx => ∃ t : Nat, t ≤ k ∧ j = .int .i64 (t : Nat) ∧ Hid (∀ z ∈ row.take t, z.n ≠ y.n) ∧ Hid (Below w.heap.size w wx)) (fun j _ => k - (intOf j).toNat)
                            case atStart => exact ⟨0, Nat.zero_le _, rfl, (fun z hz => by simp at hz), HB3.out⟩
                            case round =>
                              obtain ⟨t, ht, rfl, HT, HB4⟩ := hrel
                              by_cases htk : t < k
                              · have htz : (t : Int) < (k : Int) := by omega
                                have htz' : (t : Int) < (E : Int) := by omega
                                obtain ⟨z, hz⟩ : ∃ z, row[t]? = some z := ⟨_, List.getElem?_eq_getElem (by rw [HE.out]; omega)⟩
                                obtain ⟨e0, e1⟩ := HCX.out k y HY.out wr HB4.out
                                obtain ⟨f0, f1⟩ := HCX.out t z hz wr HB4.out
                                have HYM := Lib.hid hz
                                have HBD4 := Lib.hid (fun q => drewN_below HB4.out q)
                                clear hz
                                by_cases hyx : z.n = y.n
                                · have HF := Lib.hid (show ¬ MayFr n L from fun h =>
                                    (HSN.out.1 ((h.2.2.2 (j + 1) _ HXI.out).2.2.2.2.take (k + 1))).2.2 z (List.mem_of_getElem? (show (row.take k)[t]? = some z by rw [List.getElem?_take_of_lt htk]; exact HYM.out)) hyx)
                                  have hyb : (z.n == y.n) = true := by simpa using hyx
                                  clear hyx
                                  go_wp2_with fail
                                  go_quiet (fail)
                                  go_wp2
                                  go_ret
                                  exact ⟨false, rfl, by simpa using HF.out, HBD4.out _⟩
                                · have hyb : (z.n == y.n) = false := by simpa using hyx
                                  have HTN := Lib.hid (show ∀ q ∈ row.take (t + 1), q.n ≠ y.n from fun q hq => by
                                    rw [take_snoc HYM.out] at hq
                                    rcases List.mem_append.1 hq with h | h
                                    · exact HT.out q h
                                    · rw [List.mem_singleton] at h; rw [h]; exact hyx)
                                  clear hyx
                                  go_wp2_with fail
                                  go_quiet (fail)
                                  go_wp2
                                  go_roundw
                                  case rel => exact ⟨t + 1, by omega, by go_num, HTN.out, HBD4.out _⟩
                                  case measure => simp [intOf]; omega
                              · obtain rfl : t = k := by omega
                                have HMK := Lib.hid (HSN.out.2 ⟨HK.out, HMY.out, HT.out⟩)
                                go_wp2
                                go_roundw
                                case rel => exact ⟨t + 1, by omega, by go_num, HMK.out, HB4.out⟩
                                case measure => simp [intOf]; omega
                        · obtain rfl : k = E := by omega
                          have HMR := Lib.hid (HGOOD.out (by have := HK.out; rw [take_all HE.out] at this; exact this))
                          have hb6 : N ≤ 6 := by have := HN6.out.2; omega
                          go_wp2
                          go_roundw
                          case rel => exact ⟨j + 1 + 1, by omega, by go_num, HMR.out, HB2.out⟩
                          case measure => simp [intOf]; omega
          · obtain rfl : i = N := by omega
            have HMF := Lib.hid (show MayFr n L from ⟨by have := HN.out; have := HN6.out; omega, by have := HN.out; have := HN6.out; omega, fun y hy => by have := HX0.out; rw [hy] at this; cases this; exact HF0.out, fun t y hy => HG.out t (by have := (List.getElem?_eq_some_iff.1 hy).1; rw [HN.out] at this; exact this) y hy⟩)
            go_wp2
            go_ret
            exact ⟨true, rfl, by simpa using HMF.out, HB.out⟩
      · have HF := Lib.hid (show ¬ MayFr n L from fun h => hf0 (h.2.2.1 x0 hx0))
        have hz : (x0.f == 1) = false := by simpa using hf0
        clear h hN h1 h6 hx0 hc hf0
        go_enter Tryz.func46, Tryz.ntmps46
        go_wp2
        go_ret
        exact ⟨false, rfl, by simpa using HF.out, Below.refl _ _⟩
set_option linter.unusedSimpArgs false in
set_option maxRecDepth 100000 in
set_option maxHeartbeats 4000000 in
theorem mayl_any (l : LgV) (w : World) (h : FsAt w (.slice l.a l.fs.length l.c) l.fs) :
    Calls Tryz.prog 25 #[l.val] w fun e w' => LgPost l w e w' := by
  obtain ⟨i, W, A, a, c, fs, cl, last⟩ := l
  dsimp only at h
  obtain ⟨N, hN⟩ : ∃ N, fs.length = N := ⟨_, rfl⟩
  have HB := Lib.hid (Go.Joins.below_alloc1 w (.cells #[.int .u64 i, .int .i64 W, .int .i64 A, .slice a N c, .int .i64 cl, .int .u64 last] 25))
  have HM := Lib.hid (mayf_any W a c fs _ (h.below (Go.Joins.below_alloc1 w (.cells #[.int .u64 i, .int .i64 W, .int .i64 A, .slice a N c, .int .i64 cl, .int .u64 last] 25))))
  rw [hN] at HM
  simp only [LgV.val, LgV.arr]
  rw [hN]
  clear h hN
  by_cases b1 : i < 1
  · have HF := Lib.hid (show ¬ LgV.May ⟨i, W, A, a, c, fs, cl, last⟩ from fun h => by have := h.1; dsimp only at this; omega)
    go_enter Tryz.func25, Tryz.ntmps25
    go_wp2
    go_ret
    exact ⟨false, rfl, by simpa using HF.out, HB.out⟩
  by_cases b2 : 4611686018427387903 < i
  · have HF := Lib.hid (show ¬ LgV.May ⟨i, W, A, a, c, fs, cl, last⟩ from fun h => by have := h.1; dsimp only at this; omega)
    go_enter Tryz.func25, Tryz.ntmps25
    go_wp2
    go_ret
    exact ⟨false, rfl, by simpa using HF.out, HB.out⟩
  by_cases b3 : A < 1
  · have HF := Lib.hid (show ¬ LgV.May ⟨i, W, A, a, c, fs, cl, last⟩ from fun h => by have := h.2.1; dsimp only at this; omega)
    go_enter Tryz.func25, Tryz.ntmps25
    go_wp2
    go_ret
    exact ⟨false, rfl, by simpa using HF.out, HB.out⟩
  by_cases b4 : W < A
  · have HF := Lib.hid (show ¬ LgV.May ⟨i, W, A, a, c, fs, cl, last⟩ from fun h => by have := h.2.1; dsimp only at this; omega)
    go_enter Tryz.func25, Tryz.ntmps25
    go_wp2
    go_ret
    exact ⟨false, rfl, by simpa using HF.out, HB.out⟩
  by_cases b5 : 5 < W
  · have HF := Lib.hid (show ¬ LgV.May ⟨i, W, A, a, c, fs, cl, last⟩ from fun h => by have := h.2.1; dsimp only at this; omega)
    go_enter Tryz.func25, Tryz.ntmps25
    go_wp2
    go_ret
    exact ⟨false, rfl, by simpa using HF.out, HB.out⟩
  have HBN := Lib.hid (show (1 ≤ i ∧ i ≤ 4611686018427387903) ∧ (1 ≤ A ∧ A ≤ W ∧ W ≤ 5) from by omega)
  go_enter Tryz.func25, Tryz.ntmps25
  go_wp2_with fail
  refine HM.out.mono ?_
  rintro e w3 ⟨R, rfl, hR, hb3⟩
  have HB3 := Lib.hid (HB.out.trans (hb3.mono HB.out.size))
  have hcell := (hb3.cell (show (⟨w.heap.size, 4, none⟩ : Addr).block < _ by simp))
  have hcell5 := (hb3.cell (show (⟨w.heap.size, 5, none⟩ : Addr).block < _ by simp))
  simp at hcell hcell5
  cases R
  · have HF := Lib.hid (show ¬ LgV.May ⟨i, W, A, a, c, fs, cl, last⟩ from fun h => by have := hR.2 h.2.2.1; cases this)
    clear hR hb3
    go_wp2
    go_ret
    exact ⟨false, rfl, by simpa using HF.out, HB3.out⟩
  · have HMF := Lib.hid (hR.1 rfl)
    clear hR hb3
    by_cases k0 : cl = 0
    · by_cases l0 : last = 0
      · have HT := Lib.hid (show LgV.May ⟨i, W, A, a, c, fs, cl, last⟩ from ⟨HBN.out.1, HBN.out.2, HMF.out, .inl ⟨k0, l0⟩⟩)
        have d0 : (cl == 0) = true := by simpa using k0
        have d1 : (last == 0) = true := by simpa using l0
        go_wp2
        go_ret
        exact ⟨true, rfl, by simpa using HT.out, HB3.out⟩
      · have HF := Lib.hid (show ¬ LgV.May ⟨i, W, A, a, c, fs, cl, last⟩ from fun h => by have := h.2.2.2; dsimp only at this; omega)
        have d0 : (cl == 0) = true := by simpa using k0
        have d1 : (last == 0) = false := by simpa using l0
        have d2 : (cl == 1) = false := by simp; omega
        go_wp2
        go_ret
        exact ⟨false, rfl, by simpa using HF.out, HB3.out⟩
    · have d0 : (cl == 0) = false := by simpa using k0
      by_cases k1 : cl = 1
      · have d2 : (cl == 1) = true := by simpa using k1
        by_cases l8 : last ≤ 8
        · have HT := Lib.hid (show LgV.May ⟨i, W, A, a, c, fs, cl, last⟩ from ⟨HBN.out.1, HBN.out.2, HMF.out, .inr ⟨k1, l8⟩⟩)
          have d3 : decide (last ≤ 8) = true := by simpa using l8
          go_wp2
          go_ret
          exact ⟨true, rfl, by simpa using HT.out, HB3.out⟩
        · have HF := Lib.hid (show ¬ LgV.May ⟨i, W, A, a, c, fs, cl, last⟩ from fun h => by have := h.2.2.2; dsimp only at this; omega)
          have d3 : decide (last ≤ 8) = false := by simpa using l8
          go_wp2
          go_ret
          exact ⟨false, rfl, by simpa using HF.out, HB3.out⟩
      · have HF := Lib.hid (show ¬ LgV.May ⟨i, W, A, a, c, fs, cl, last⟩ from fun h => by have := h.2.2.2; dsimp only at this; omega)
        have d2 : (cl == 1) = false := by simpa using k1
        go_wp2
        go_ret
        exact ⟨false, rfl, by simpa using HF.out, HB3.out⟩
end Go.Proofs.YtpihogkhfmijcaaGreat
