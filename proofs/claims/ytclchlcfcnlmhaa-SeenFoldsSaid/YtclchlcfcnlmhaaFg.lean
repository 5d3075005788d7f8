/- Entries: whether one may be, whether they may stand one behind the other; Take. -/
import Derived.Test.YtclchlcfcnlmhaaFf
namespace Go.Proofs.Ytclchlcfcnlmhaa
open Go.RowKit Go.Maps Go.Shelf
set_option linter.unusedSimpArgs false
/-- an entry, of whose body the length counts -/
structure EN where
  p : Int
  s : Int
  a : Option Addr
  n : Nat
  c : Nat
def EN.cells (e : EN) : List Value := [.int .i64 e.p, .int .u64 e.s, .slice e.a e.n e.c]
abbrev EN.val (e : EN) : Value := .agg #[.int .i64 e.p, .int .u64 e.s, .slice e.a e.n e.c]
def EN.ok (e : EN) : Prop := (-9223372036854775808 ≤ e.p ∧ e.p ≤ 9223372036854775807) ∧ (0 ≤ e.s ∧ e.s ≤ 18446744073709551615) ∧ e.n ≤ 9223372036854775807
def EN.may (e : EN) : Prop := (1 ≤ e.p ∧ e.p ≤ 15) ∧ (1 ≤ e.s ∧ e.s ≤ 4611686018427387903) ∧ e.n ≤ 64
instance (e : EN) : Decidable e.may := by unfold EN.may; infer_instance
abbrev EsAt (w : World) (v : Value) (l : List EN) : Prop := RowAt (fun _ e => e.ok) 3 EN.cells w v l
theorem EsAt.below {w w' : World} {v : Value} {l : List EN} (h : EsAt w v l) (hb : Below w.heap.size w w') : EsAt w' v l := RowAt.below h hb fun _ h => h
theorem EsAt.ok {w : World} {v : Value} {l : List EN} (h : EsAt w v l) : ∀ x ∈ l, x.ok := by
  intro q hq
  obtain ⟨j, hj⟩ := List.getElem?_of_mem hq
  obtain ⟨a, cap, _, _, _, _, h⟩ := h
  obtain ⟨b, off, _, _, h⟩ := h (by cases l with | nil => cases hq | cons => simp)
  exact (h j q hj).1
theorem EsAt.cell {w : World} {a : Option Addr} {n cap : Nat} {l : List EN} (h : EsAt w (.slice a n cap) l) {j : Nat} {x : EN} (hx : l[j]? = some x) : ∃ b off, a = some ⟨b, off, none⟩ ∧ b < w.heap.size ∧ ∀ W, Below w.heap.size w W → W.cell? ⟨b, off + j * 3, none⟩ = some (.int .i64 x.p) ∧ W.cell? ⟨b, off + j * 3 + 1, none⟩ = some (.int .u64 x.s) ∧ W.cell? ⟨b, off + j * 3 + 2, none⟩ = some (.slice x.a x.n x.c) := by
  obtain ⟨a', cap', hv, _, _, _, h⟩ := h
  cases hv
  obtain ⟨b, off, rfl, hb, h⟩ := h (by have := (List.getElem?_eq_some_iff.1 hx).1; omega)
  refine ⟨b, off, rfl, hb, fun W hW => ⟨?_, ?_, ?_⟩⟩
  · rw [hW.cell (show (⟨b, off + j * 3, none⟩ : Addr).block < _ from hb)]; exact (h j x hx).2 0 (by omega)
  · rw [hW.cell (show (⟨b, off + j * 3 + 1, none⟩ : Addr).block < _ from hb)]; exact (h j x hx).2 1 (by omega)
  · rw [hW.cell (show (⟨b, off + j * 3 + 2, none⟩ : Addr).block < _ from hb)]; exact (h j x hx).2 2 (by omega)
theorem counts_any (x : Int) (w : World) : Calls Try.prog 59 #[.int .u64 x] w fun e w' => e = .returned (.bool (decide (1 ≤ x) && decide (x ≤ 4611686018427387903))) ∧ w' = w := by
  by_cases h1 : 1 ≤ x <;> by_cases h2 : x ≤ 4611686018427387903
  all_goals go_enter Try.func59, Try.ntmps59
  all_goals go_wp2
  all_goals go_ret
  all_goals exact ⟨by first | (simp_all; done) | (simp_all; omega), rfl⟩
set_option maxHeartbeats 1000000 in
theorem emay_any (e : EN) (w : World) : Calls Try.prog 55 #[e.val] w fun r w' => r = .returned (.bool (decide e.may)) ∧ Below w.heap.size w w' := by
  obtain ⟨p, s, a, n, c⟩ := e
  have HB := Lib.hid (Go.Joins.below_alloc1 w (.cells #[.int .i64 p, .int .u64 s, .slice a n c] 51))
  have HN := Lib.hid (fun W => counts_any s W)
  have hmb : decide (EN.may ⟨p, s, a, n, c⟩) = ((decide (1 ≤ p) && decide (p ≤ 15)) && ((decide (1 ≤ s) && decide (s ≤ 4611686018427387903)) && decide (n ≤ 64))) := by
    rw [Bool.eq_iff_iff, decide_eq_true_iff]
    simp [EN.may]
  rw [hmb]
  clear hmb
  by_cases h1 : 1 ≤ p
  · by_cases h2 : p ≤ 15
    · obtain ⟨k, hc⟩ : ∃ c, (decide (1 ≤ s) && decide (s ≤ 4611686018427387903)) = c := ⟨_, rfl⟩
      rw [hc] at HN ⊢
      clear hc
      cases k
      · go_enter Try.func55, Try.ntmps55
        go_wp2_with fail
        refine (HN.out _).mono ?_
        rintro e w1 ⟨rfl, rfl⟩
        go_wp2
        go_ret
        exact ⟨by simp [h1, h2], HB.out⟩
      · go_enter Try.func55, Try.ntmps55
        go_wp2_with fail
        refine (HN.out _).mono ?_
        rintro e w1 ⟨rfl, rfl⟩
        go_wp2
        go_ret
        exact ⟨by simp [h1, h2]; try omega, HB.out⟩
    · clear HN
      go_enter Try.func55, Try.ntmps55
      go_wp2
      go_ret
      exact ⟨by first | (simp [h1, h2]; done) | (simp [h1, h2]; omega), HB.out⟩
  · clear HN
    go_enter Try.func55, Try.ntmps55
    go_wp2
    go_ret
    exact ⟨by first | (simp [h1]; done) | (simp [h1]; omega), HB.out⟩
/-- mayStand's closure -/
theorem notE_any (e : EN) (w : World) : Calls Try.prog 54 #[e.val] w fun r w' => r = .returned (.bool (!decide e.may)) ∧ Below w.heap.size w w' := by
  obtain ⟨W, hW⟩ : ∃ W, W = w.alloc (.cells #[.int .i64 e.p, .int .u64 e.s, .slice e.a e.n e.c] 51) := ⟨_, rfl⟩
  have HB := Lib.hid (show Below w.heap.size w W by rw [hW]; exact Go.Joins.below_alloc1 w _)
  have HM := Lib.hid (emay_any e W)
  obtain ⟨b, hb⟩ : ∃ b, decide e.may = b := ⟨_, rfl⟩
  rw [hb] at HM ⊢
  clear hb
  go_enter Try.func54, Try.ntmps54
  go_wp2_with fail
  rw [← hW]
  clear hW
  refine HM.out.mono ?_
  rintro r w1 ⟨rfl, hb1⟩
  have HB1 := Lib.hid (HB.out.trans (hb1.mono HB.out.size))
  clear hb1
  go_wp2
  go_ret
  exact ⟨rfl, HB1.out⟩
structure EAsks (w : World) (f : Nat) (p : EN → Bool) : Prop where
  enters : ∀ args w, (callFunc f args).run Try.prog w = .ok (.enter f args) w
  calls : ∀ W, Below w.heap.size w W → ∀ x : EN, x.ok → Calls Try.prog f #[x.val] W fun e w' => e = .returned (.bool (p x)) ∧ Below W.heap.size W w'
set_option maxHeartbeats 400000 in
theorem eindex_any (v : Value) (l : List EN) (f : Nat) (p : EN → Bool) (w : World) (hp : EsAt w v l) (ha : EAsks w f p) :
    Calls Try.prog 58 #[v, .func (.func f) #[] #[]] w fun e w' => ∃ z : Int, e = .returned (.int .i64 z) ∧ ((z = -1 ∧ ∀ q ∈ l, p q = false) ∨ ∃ k : Nat, z = k ∧ (∃ q, l[k]? = some q ∧ p q = true) ∧ ∀ q ∈ l.take k, p q = false) ∧ Below w.heap.size w w' := by
  have HP := Lib.hid hp
  have HA := Lib.hid ha
  have hen := ha.enters
  obtain ⟨a, cap, rfl, hlen, -⟩ := hp
  obtain ⟨L, hL⟩ : ∃ L, l.length = L := ⟨_, rfl⟩
  rw [hL] at hlen HP ⊢
  have HL := Lib.hid hL
  clear hL ha
  go_enter Try.func58, Try.ntmps58
  go_wp2
  go_loopw [8] (fun i wr => ∃ k : Nat, k ≤ L ∧ i = .int .i64 (k : Nat) ∧ Hid (Below w.heap.size w wr ∧ ∀ q ∈ l.take k, p q = false)) (fun i _ => L - (intOf i).toNat)
  case atStart => exact ⟨0, Nat.zero_le _, rfl, Below.refl _ _, by simp⟩
  case round =>
    obtain ⟨k, hk, rfl, HR⟩ := hrel
    by_cases hlt : k < L
    · have hltz : (k : Int) < (L : Int) := by omega
      obtain ⟨x, hx⟩ : ∃ x, l[k]? = some x := ⟨_, List.getElem?_eq_getElem (by rw [HL.out]; exact hlt)⟩
      obtain ⟨b, off, rfl, hb, hc⟩ := EsAt.cell (HP.out.below HR.out.1) hx
      obtain ⟨c0, c1, c2⟩ := hc wr (Below.refl _ _)
      have HN := Lib.hid (HA.out.calls wr HR.out.1 x (HP.out.ok x (List.mem_of_getElem? hx)))
      have HX := Lib.hid hx
      clear hc hx hb
      cases hz : p x
      · rw [hz] at HN
        have HZ := Lib.hid hz
        clear hz
        go_wp2_with fail
        refine HN.out.mono ?_
        rintro e w3 ⟨rfl, hb3⟩
        have HB := Lib.hid (HR.out.1.trans (hb3.mono HR.out.1.size))
        clear hb3
        go_wp2
        go_roundw
        case rel =>
          refine ⟨k + 1, by omega, by go_num, HB.out, fun q hq => ?_⟩
          rw [take_snoc HX.out] at hq
          rcases List.mem_append.1 hq with hq | hq
          · exact HR.out.2 q hq
          · rw [List.mem_singleton] at hq; rw [hq]; exact HZ.out
        case measure => simp [intOf]; omega
      · rw [hz] at HN
        have HZ := Lib.hid hz
        clear hz
        go_wp2_with fail
        refine HN.out.mono ?_
        rintro e w3 ⟨rfl, hb3⟩
        have HB := Lib.hid (HR.out.1.trans (hb3.mono HR.out.1.size))
        clear hb3
        go_wp2
        go_ret
        exact ⟨_, rfl, .inr ⟨k, rfl, ⟨x, HX.out, HZ.out⟩, HR.out.2⟩, HB.out⟩
    · obtain rfl : k = L := by omega
      have HB := Lib.hid HR.out
      clear HR
      go_wp2
      go_ret
      exact ⟨_, rfl, .inl ⟨rfl, fun q hq => HB.out.2 q (by rw [take_all HL.out]; exact hq)⟩, HB.out.1⟩
theorem econtains_any (v : Value) (l : List EN) (f : Nat) (p : EN → Bool) (w : World) (hp : EsAt w v l) (ha : EAsks w f p) :
    Calls Try.prog 53 #[v, .func (.func f) #[] #[]] w fun e w' => e = .returned (.bool (l.any p)) ∧ Below w.heap.size w w' := by
  have HI := Lib.hid (eindex_any v l f p w hp ha)
  clear hp ha
  go_enter Try.func53, Try.ntmps53
  go_wp2_with fail
  refine HI.out.mono ?_
  rintro e w1 ⟨z, rfl, hz, hb⟩
  have HB := Lib.hid hb
  clear hb
  have hzz : decide (0 ≤ z) = l.any p := by
    rcases hz with ⟨rfl, h⟩ | ⟨k, rfl, ⟨q, hq, hp⟩, -⟩
    · rw [List.any_eq_false.2 fun q hq => by rw [h q hq]; simp]; rfl
    · rw [List.any_eq_true.2 ⟨q, List.mem_of_getElem? hq, hp⟩]; simp
  have HZ := Lib.hid hzz
  clear hz hzz
  go_wp2
  go_ret
  refine ⟨?_, HB.out⟩
  rw [← HZ.out]
  simp
/-- entries may be, and stand one behind the other from an offset on -/
def Stands (f : Int) (l : List EN) : Prop := l = [] ∨ (f + (l.length : Int) - 1 ≤ 4611686018427387903 ∧ ∀ e ∈ l, e.may)
theorem wrap_u64 {x : Int} (h1 : 0 ≤ x) (h2 : x ≤ 18446744073709551615) : IntKind.u64.wrap x = x := by
  simp [IntKind.wrap, IntKind.bits, IntKind.signed]
  omega
set_option maxHeartbeats 1000000 in
theorem stand_any (f : Int) (v : Value) (l : List EN) (w : World) (hf : 0 ≤ f ∧ f ≤ 18446744073709551615) (hl : l.length ≤ 100000) (hp : EsAt w v l) :
    Calls Try.prog 43 #[.int .u64 f, v] w fun e w' => ∃ b : Bool, e = .returned (.bool b) ∧ (b = true ↔ Stands f l) ∧ Below w.heap.size w w' := by
  have HC := Lib.hid (econtains_any v l 54 (fun e => !decide e.may) w hp ⟨enters_of Try.func54 (by kernel_rfl) rfl, fun W _ x _ => notE_any x W⟩)
  obtain ⟨a, cap, rfl, hlen, -⟩ := hp
  obtain ⟨L, hL⟩ : ∃ L, l.length = L := ⟨_, rfl⟩
  rw [hL] at hlen HC hl ⊢
  have HL := Lib.hid hL
  clear hL
  rcases Nat.eq_zero_or_pos L with rfl | h0
  · have HE := Lib.hid (show Stands f l from .inl (List.eq_nil_of_length_eq_zero HL.out))
    clear HC
    go_enter Try.func43, Try.ntmps43
    go_wp2
    go_ret
    exact ⟨true, rfl, by simpa using HE.out, Below.refl _ _⟩
  · have hne : ((L : Int) == 0) = false := by simp; omega
    have hnil := Lib.hid (show l ≠ [] from fun e => by have := HL.out; rw [e] at this; simp at this; omega)
    by_cases h1 : f ≤ 4611686018427387903
    · have hwL : IntKind.i64.wrap ((L : Int) - 1) = (L : Int) - 1 := wrap_i64 (by omega) (by omega)
      have hwu : IntKind.u64.wrap ((L : Int) - 1) = (L : Int) - 1 := wrap_u64 (by omega) (by omega)
      have hws : IntKind.u64.wrap (f + ((L : Int) - 1)) = f + ((L : Int) - 1) := wrap_u64 (by omega) (by omega)
      by_cases h2 : f + ((L : Int) - 1) ≤ 4611686018427387903
      · obtain ⟨b, hb⟩ : ∃ b, (l.any fun e => !decide e.may) = b := ⟨_, rfl⟩
        have HBB := Lib.hid (show (!b) = true ↔ Stands f l from by
          rw [← hb]
          unfold Stands
          have := HL.out
          constructor
          · intro h
            refine .inr ⟨by omega, fun e he => ?_⟩
            have h' : (l.any fun e => !decide e.may) = false := by simpa using h
            have := List.any_eq_false.1 h' e he
            simpa using this
          · rintro (h | ⟨-, h⟩)
            · exact absurd h hnil.out
            · have : (l.any fun e => !decide e.may) = false := List.any_eq_false.2 fun e he => by simpa using h e he
              rw [this]; rfl)
        rw [hb] at HC
        clear hb
        go_enter Try.func43, Try.ntmps43
        go_wp2_with fail
        refine HC.out.mono ?_
        rintro e w1 ⟨rfl, hb1⟩
        have HB := Lib.hid hb1
        clear hb1
        go_wp2
        go_ret
        exact ⟨_, rfl, HBB.out, HB.out⟩
      · have HF := Lib.hid (show ¬ Stands f l from fun h => by
          rcases h with h | ⟨h, -⟩
          · exact absurd h hnil.out
          · have := HL.out; omega)
        clear HC
        go_enter Try.func43, Try.ntmps43
        go_wp2
        go_ret
        first | exact ⟨false, rfl, by simpa using HF.out, Below.refl _ _⟩ | exact .inl ⟨rfl, HF.out, Below.refl _ _⟩
    · have HF := Lib.hid (show ¬ Stands f l from fun h => by
        rcases h with h | ⟨h, -⟩
        · exact absurd h hnil.out
        · have := HL.out; omega)
      clear HC
      go_enter Try.func43, Try.ntmps43
      go_wp2
      go_ret
      first | exact ⟨false, rfl, by simpa using HF.out, Below.refl _ _⟩ | exact .inl ⟨rfl, HF.out, Below.refl _ _⟩
/-- the marks of entries that stand one behind the other -/
def stand : Int → List EN → List MK
  | _, [] => []
  | f, e :: r => ⟨e.p, e.s, f⟩ :: stand (f + 1) r
theorem stand_len : ∀ (f : Int) (l : List EN), (stand f l).length = l.length
  | _, [] => rfl
  | f, e :: r => by rw [stand, List.length_cons, stand_len, List.length_cons]
theorem stand_get : ∀ (f : Int) (l : List EN) (k : Nat) (e : EN), l[k]? = some e → (stand f l)[k]? = some ⟨e.p, e.s, f + (k : Int)⟩
  | _, [], _, _, h => by simp at h
  | f, x :: r, 0, e, h => by simp at h; subst h; simp [stand]
  | f, x :: r, k + 1, e, h => by
    have := stand_get (f + 1) r k e (by simpa using h)
    rw [stand, List.getElem?_cons_succ, this, show f + 1 + (k : Int) = f + ((k + 1 : Nat) : Int) by omega]
theorem stand_app : ∀ (f : Int) (a b : List EN), stand f (a ++ b) = stand f a ++ stand (f + (a.length : Int)) b
  | f, [], b => by simp [stand]
  | f, e :: a, b => by
    rw [List.cons_append, stand, stand, stand_app (f + 1) a b, List.cons_append, List.length_cons, show f + 1 + (a.length : Int) = f + ((a.length + 1 : Nat) : Int) by omega]
theorem stand_may : ∀ {f : Int} {l : List EN}, 0 ≤ f → f + (l.length : Int) - 1 ≤ 4611686018427387903 → (∀ e ∈ l, e.may) → ∀ m ∈ stand f l, m.may
  | _, [], _, _, _, m, h => by simp [stand] at h
  | f, e :: r, h0, h1, h, m, hm => by
    rw [List.length_cons] at h1
    rw [stand] at hm
    rcases List.mem_cons.1 hm with rfl | hm
    · have := h e List.mem_cons_self
      exact ⟨this.1, this.2.1, h0, by show f ≤ _; omega⟩
    · exact stand_may (by omega) (by omega) (fun x hx => h x (List.mem_cons_of_mem _ hx)) m hm
theorem Stands.may {f : Int} {l : List EN} (h : Stands f l) (h0 : 0 ≤ f) : ∀ m ∈ stand f l, m.may := by
  rcases h with rfl | ⟨h1, h2⟩
  · intro m hm; simp [stand] at hm
  · exact stand_may h0 h1 h2
theorem madeM (w : World) (n : Nat) (hn : n ≤ 100000) : OwnMs w.heap.size (w.alloc (.cells (madeCells #[.int .i64 0, .int .u64 0, .int .u64 0] (n * 3)) 26)) (.slice (some ⟨w.heap.size, 0, none⟩) n n) (List.replicate n default) := by
  have hl : (List.replicate n (default : MK)).length = n := List.length_replicate
  have hf := flat_len (k := 3) (enc := MK.cells) (fun _ => rfl) (List.replicate n (default : MK))
  unfold OwnMs OwnRow
  rw [hl]
  refine ⟨by rw [hf, hl], .inr ⟨w.heap.size, n, _, rfl, Nat.le_refl _, heap_alloc_new _ _, Nat.le_refl _, by unfold maxLen; omega, size_madeCells _ _, ?_⟩⟩
  apply List.ext_getElem?
  intro i
  by_cases hi : i < n * 3
  · have hd : i / 3 * 3 + i % 3 = i := by omega
    rw [List.getElem?_take_of_lt hi, Array.getElem?_toList]
    have : (madeCells #[.int .i64 0, .int .u64 0, .int .u64 0] (n * 3))[i]? = (MK.cells default)[i % 3]? := by
      unfold madeCells
      simp only [Array.getElem?_map, Array.getElem?_range]
      rw [if_pos hi]
      have h2 : i % 3 = 0 ∨ i % 3 = 1 ∨ i % 3 = 2 := by omega
      rcases h2 with h2 | h2 | h2 <;> simp [h2, MK.cells, default]
    rw [this]
    have hx : (List.replicate n (default : MK))[i / 3]? = some default := by rw [List.getElem?_replicate, if_pos (by omega)]
    conv => rhs; rw [← hd]
    rw [flat_at (k := 3) (enc := MK.cells) (fun _ => rfl) _ _ _ (by omega), hx]
    rfl
  · rw [List.getElem?_eq_none (by simp [size_madeCells]; omega), List.getElem?_eq_none (by rw [hf, hl]; omega)]
theorem set_filled {T : List MK} {k n : Nat} {x : MK} (hk : k < n) (hT : T.length = n) (hx : T[k]? = some x) : (T.take k ++ List.replicate (n - k) default).set k x = T.take (k + 1) ++ List.replicate (n - (k + 1)) default := by
  have hl : (T.take k).length = k := by rw [List.length_take]; omega
  obtain ⟨m, hm⟩ : ∃ m, n - k = m + 1 := ⟨n - k - 1, by omega⟩
  rw [List.set_append_right _ _ (by omega), hl, Nat.sub_self, hm, List.replicate_succ, List.set_cons_zero, show n - (k + 1) = m by omega, take_snoc hx]
  simp
/-- what Take answers -/
def TakePost (base : Nat) (w : World) (v : Value) (z : Int) (l : List MK) (f : Int) (es : List EN) : Prop :=
  (¬ (MayR l ∧ Stands f es) ∧ z = 1 ∧ v = .slice none 0 0) ∨ ((MayR l ∧ Stands f es) ∧ IntoPost base w v z (intoR l (stand f es)))
set_option maxHeartbeats 2000000 in
theorem take_any (v u : Value) (l : List MK) (f : Int) (es : List EN) (w : World) (hf : 0 ≤ f ∧ f ≤ 18446744073709551615) (hp : MsAt w v l) (hq : EsAt w u es) (hes : es.length ≤ 100000) :
    Calls Try.prog 24 #[v, .int .u64 f, u] w fun e w' => ∃ v' z, e = .returned (.tuple #[v', .int .i64 z]) ∧ TakePost w.heap.size w' v' z l f es ∧ Below w.heap.size w w' := by
  have HA := Lib.hid (mayR_any v l w hp)
  have HP := Lib.hid (And.intro hp hq)
  have HF0 := Lib.hid hf
  have HTL := Lib.hid (stand_len f es)
  obtain ⟨ua, ucap, rfl, hlen, -⟩ := hq
  obtain ⟨n, hn⟩ : ∃ n, es.length = n := ⟨_, rfl⟩
  rw [hn] at hlen hes HP HTL ⊢
  have HN := Lib.hid hn
  clear hn hp hf
  obtain ⟨i0, hi, hz0, hz1, hz2⟩ := info_parts info26
  have hmk := fun w => run_make (P := Try.prog) w 22 26 i0 _ Try.underlying22 hi hz0 .i64 .i64 (n : Int) (n : Int) (by omega) (Int.le_refl _) (by rw [hz2]; omega) (by omega)
  simp only [Int.toNat_natCast, hz1, Value.cells] at hmk
  go_enter Try.func24, Try.ntmps24
  go_wp2_with fail
  refine HA.out.mono ?_
  rintro e w1 ⟨c1, rfl, h1, hb1⟩
  have HB1 := Lib.hid hb1
  cases c1
  · have HF := Lib.hid (show ¬ (MayR l ∧ Stands f es) from fun h => by have := h1.2 h.1; cases this)
    clear h1 hb1
    go_wp2
    refine bodyPost_ret (results_tmp2 rfl _ _ _) rfl ?_
    exact ⟨_, _, rfl, .inl ⟨HF.out, rfl, rfl⟩, HB1.out⟩
  · have H1 := Lib.hid (h1.1 rfl)
    have HS := Lib.hid (stand_any f _ es w1 HF0.out (by rw [HN.out]; exact hes) (HP.out.2.below hb1))
    clear h1 hb1
    go_wp2_with fail
    refine HS.out.mono ?_
    rintro e w2 ⟨c2, rfl, h2, hb2⟩
    have HB2 := Lib.hid (HB1.out.trans (hb2.mono HB1.out.size))
    cases c2
    · have HF := Lib.hid (show ¬ (MayR l ∧ Stands f es) from fun h => by have := h2.2 h.2; cases this)
      clear h2 hb2
      go_wp2
      refine bodyPost_ret (results_tmp2 rfl _ _ _) rfl ?_
      exact ⟨_, _, rfl, .inl ⟨HF.out, rfl, rfl⟩, HB2.out⟩
    · have H2 := Lib.hid (h2.1 rfl)
      obtain ⟨gm, hgm⟩ : ∃ gm, w2.heap.size = gm := ⟨_, rfl⟩
      have HGM := Lib.hid (show w.heap.size ≤ gm by rw [← hgm]; exact HB2.out.size)
      have HST := Lib.hid (show OwnMs gm (w2.alloc (.cells (madeCells #[.int .i64 0, .int .u64 0, .int .u64 0] (n * 3)) 26)) (.slice (some ⟨gm, 0, none⟩) n n) ((stand f es).take 0 ++ List.replicate (n - 0) default) ∧ Below w.heap.size w (w2.alloc (.cells (madeCells #[.int .i64 0, .int .u64 0, .int .u64 0] (n * 3)) 26)) from
        ⟨by rw [← hgm]; exact madeM w2 n hes, HB2.out.trans ((Go.Joins.below_alloc1 w2 _).mono HB2.out.size)⟩)
      clear h2 hb2
      go_wp2
      go_loopw [25] (fun i wr => ∃ k : Nat, k ≤ n ∧ i = .int .i64 (k : Nat) ∧ Hid (OwnMs gm wr (.slice (some ⟨gm, 0, none⟩) n n) ((stand f es).take k ++ List.replicate (n - k) default) ∧ Below w.heap.size w wr)) (fun i _ => n - (intOf i).toNat)
      case atStart => exact ⟨0, Nat.zero_le _, rfl, HST.out⟩
      case round =>
        obtain ⟨k, hk, rfl, HR⟩ := hrel
        by_cases hlt : k < n
        · obtain ⟨x, hx⟩ : ∃ x, es[k]? = some x := ⟨_, List.getElem?_eq_getElem (by rw [HN.out]; exact hlt)⟩
          have hltz : (k : Int) < (n : Int) := by omega
          have hfk : f + (k : Int) ≤ 4611686018427387903 := by
            rcases H2.out with h | ⟨h, -⟩
            · rw [h] at hx; simp at hx
            · have := HN.out; omega
          have hwk : IntKind.u64.wrap (k : Int) = (k : Int) := wrap_u64 (by omega) (by omega)
          have hwf : IntKind.u64.wrap (f + (k : Int)) = f + (k : Int) := wrap_u64 (by have := HF0.out; omega) (by omega)
          obtain ⟨b, off, rfl, hb, hc⟩ := EsAt.cell (HP.out.2.below HR.out.2) hx
          obtain ⟨c0, c1, c2⟩ := hc wr (Below.refl _ _)
          have hlen2 : ((stand f es).take k ++ List.replicate (n - k) (default : MK)).length = n := by rw [List.length_append, List.length_take, HTL.out, List.length_replicate]; omega
          obtain ⟨W1, hW1⟩ : ∃ W1, W1 = wr.alloc (.cells #[.int .i64 x.p, .int .u64 x.s, .slice x.a x.n x.c] 51) := ⟨_, rfl⟩
          have hB1 : Below wr.heap.size wr W1 := by rw [hW1]; exact Go.Joins.below_alloc1 wr _
          have ho := HR.out.1.kept hB1 (Nat.le_refl _)
          obtain ⟨⟨e0, d0⟩, ⟨e1, d1⟩, ⟨e2, d2⟩, f0, f1, f2⟩ := OwnMs.has hlen2 ho k hlt
          have x0 : W1.cell? ⟨wr.heap.size, 0, none⟩ = some (.int .i64 x.p) := by rw [hW1, World.cell?_alloc_new]; rfl
          have x1 : W1.cell? ⟨wr.heap.size, 1, none⟩ = some (.int .u64 x.s) := by rw [hW1, World.cell?_alloc_new]; rfl
          have HZ := Lib.hid (show OwnMs gm (put3 W1 gm (k * 3) ⟨x.p, x.s, f + k⟩) (.slice (some ⟨gm, 0, none⟩) n n) ((stand f es).take (k + 1) ++ List.replicate (n - (k + 1)) default) ∧ Below w.heap.size w (put3 W1 gm (k * 3) ⟨x.p, x.s, f + k⟩) from
            ⟨by rw [← set_filled hlt HTL.out (stand_get f es k x hx)]; exact ho.set hlen2 k _, put3_below (HR.out.2.trans (hB1.mono HR.out.2.size)) HGM.out _ _⟩)
          clear hb hx hc hlen2 hB1 ho
          go_upto_region 7 with fail
          rw [← hW1]
          clear hW1 c0 c1 c2
          go_wp2
          go_roundw
          case rel => exact ⟨k + 1, by omega, by go_num, HZ.out⟩
          case measure => simp [intOf]; omega
        · obtain rfl : k = n := by omega
          have hT : (stand f es).take k ++ List.replicate (k - k) (default : MK) = stand f es := by rw [take_all HTL.out, Nat.sub_self]; simp
          have ho := HR.out.1
          rw [hT] at ho
          have HI := Lib.hid (into_any v _ l (stand f es) wr (HP.out.1.below HR.out.2) (ho.at fun m hm => (H2.out.may HF0.out.1 m hm).ok) H1.out.ris H1.out.len)
          have HB3 := Lib.hid HR.out.2
          clear HR hT ho
          go_wp2_with fail
          refine HI.out.mono ?_
          rintro e w3 ⟨v3, z3, rfl, h3, hb3⟩
          have H3 := Lib.hid (And.intro h3.base (HB3.out.trans (hb3.mono HB3.out.size)))
          clear h3 hb3
          go_wp2
          refine bodyPost_ret (results_tmp2 rfl _ _ _) rfl ?_
          exact ⟨_, _, rfl, .inr ⟨⟨H1.out, H2.out⟩, H3.out.1 _ HB3.out.size⟩, H3.out.2⟩
end Go.Proofs.Ytclchlcfcnlmhaa
