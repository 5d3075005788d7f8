/- among, of ints; Pick's closure; extend's closure. -/
import Derived.Test.YtnfjhpdpeihheaaDel
namespace Go.Proofs.Ytnfjhpdpeihheaa
open Go.RowKit Go.Maps Go.Shelf
theorem keyed3 : Keyed Try.prog 3 := int_keyed Try.underlying3
def intOk (x : Int) : Prop := -9223372036854775808 ≤ x ∧ x ≤ 9223372036854775807
theorem intOk.wf {x : Int} (h : intOk x) : (Lit.int .i64 x).wf = true := WalkArith.wf_i64 h
/-- the map in block b counts the numbers l -/
def TimesI (w : World) (b : Nat) (l : List Int) : Prop :=
  ∃ D : DataW Unit, w.ownsMap Try.prog 3 (plainElem Try.prog 3) b l.length D ∧ ∀ x, D.atKey (.int .i64 x) (.lit (.int .i64 0)) = .lit (.int .i64 (l.count x))
theorem TimesI.lt {w : World} {b : Nat} {l : List Int} (h : TimesI w b l) : b < w.heap.size := by
  obtain ⟨D, h, _⟩ := h
  exact h.lt
theorem TimesI.block {w w' : World} {b : Nat} {l : List Int} (h : TimesI w b l) (hb : w'.heap[b]? = w.heap[b]?) : TimesI w' b l := by
  obtain ⟨D, ⟨es, clock, h1, h2⟩, h3⟩ := h
  exact ⟨D, ⟨es, clock, hb.trans h1, h2⟩, h3⟩
theorem TimesI.below {w w' : World} {B b : Nat} {l : List Int} (h : TimesI w b l) (hb : Below B w w') (hB : w.heap.size ≤ B) : TimesI w' b l := h.block (hb.block b (by have := h.lt; omega))
theorem TimesI.made (w : World) : TimesI (w.alloc (.map #[] 0)) w.heap.size [] := ⟨_, World.ownsMap_made w _ _ _, fun p => by simp [DataW.atKey]⟩
theorem TimesI.look {w : World} {b : Nat} {l : List Int} (h : TimesI w b l) (x : Int) (hx : intOk x) : (Instr.lookup 86 (.map (some b)) (.int .i64 x) false).run Try.prog w = .ok (.int .i64 (l.count x)) w := by
  obtain ⟨D, hown, hD⟩ := h
  obtain ⟨c, hrun, hat, _⟩ := hown.lookup_int keyed3 Try.underlying86 Try.underlying3 (zero3 w) (keyOf_int_mk Try.underlying3 hx.wf)
  rw [hD x] at hat
  simp at hat
  rw [hrun, ← hat]
theorem count_ltI (l : List Int) (p : Int) : l.count p ≤ l.length := List.count_le_length
/-- one more -/
theorem TimesI.bump {w : World} {b : Nat} {l : List Int} (h : TimesI w b l) (x : Int) (hx : intOk x) (hl : l.length < 9223372036854775807) :
    ∃ w1 : World, (Instr.mapUpdate 86 (.map (some b)) (.int .i64 x) (.int .i64 (l.count x + 1))).run Try.prog w = .ok () w1 ∧ TimesI w1 b (l ++ [x]) ∧ w.grownBy w1 (some b) := by
  obtain ⟨D, hown, hD⟩ := h
  have hcl := count_ltI l x
  have hw1 : (Lit.int .i64 ((l.count x : Int) + 1)).wf = true := WalkArith.wf_i64 (by omega)
  have hk := keyOf_int_mk (P := Try.prog) Try.underlying3 hx.wf
  obtain ⟨w1, hu1, hown1, hg1⟩ := hown.update keyed3 Try.underlying86 (by unfold maxLen; omega) hk (plainElem_int (H := Unit) Try.underlying3 hw1)
  refine ⟨w1, hu1, ⟨_, by rw [List.length_append]; exact hown1, fun q => ?_⟩, hg1⟩
  by_cases hpq : q = x
  · subst hpq
    rw [atKey_put_same (hown.isMap) (keyed3.key hk), List.count_append]
    simp
  · rw [atKey_put_other (fun e => hpq (by cases e; rfl)), hD q, List.count_append]
    simp [Ne.symm hpq]
theorem IntsAt.ok {w : World} {v : Value} {l : List Int} (h : IntsAt w v l) : ∀ x ∈ l, intOk x := by
  intro q hq
  obtain ⟨j, hj⟩ := List.getElem?_of_mem hq
  obtain ⟨a, cap, _, _, _, _, h⟩ := h
  obtain ⟨b, off, _, _, h⟩ := h (by cases l with | nil => cases hq | cons => simp)
  exact (h j q hj).1
theorem IntsAt.cell {w : World} {a : Option Addr} {n cap : Nat} {l : List Int} (h : IntsAt w (.slice a n cap) l) {j : Nat} {x : Int} (hx : l[j]? = some x) : ∃ b off, a = some ⟨b, off, none⟩ ∧ b < w.heap.size ∧ ∀ W, Below w.heap.size w W → W.cell? ⟨b, off + j, none⟩ = some (.int .i64 x) := by
  obtain ⟨a', cap', hv, _, _, _, h⟩ := h
  cases hv
  obtain ⟨b, off, rfl, hb, h⟩ := h (by have := (List.getElem?_eq_some_iff.1 hx).1; omega)
  refine ⟨b, off, rfl, hb, fun W hW => ?_⟩
  rw [hW.cell (show (⟨b, off + j, none⟩ : Addr).block < _ from hb)]
  have := (h j x hx).2 0 (by omega)
  simpa using this
theorem take_snocI {l : List Int} {k : Nat} {x : Int} (h : l[k]? = some x) : l.take (k + 1) = l.take k ++ [x] := take_snoc h
set_option maxRecDepth 100000 in
set_option maxHeartbeats 2000000 in
theorem amongI_any (v : Value) (l : List Int) (w : World) (hp : IntsAt w v l) (hl : l.length ≤ 100000) :
    Calls Try.prog 40 #[v] w fun e w' => e = .returned (.func (.func 56) #[] #[.pointer (some ⟨w.heap.size + 1, 0, none⟩)]) ∧ w'.cell? ⟨w.heap.size + 1, 0, none⟩ = some (.map (some w.heap.size)) ∧ w.heap.size + 1 < w'.heap.size ∧ TimesI w' w.heap.size l ∧ Below w.heap.size w w' := by
  have HP := Lib.hid hp
  obtain ⟨a, cap, rfl, hlen, -⟩ := hp
  obtain ⟨L, hL⟩ : ∃ L, l.length = L := ⟨_, rfl⟩
  rw [hL] at hlen HP hl ⊢
  have HL := Lib.hid hL
  clear hL
  have hmm := @run_makeMap Try.prog
  have hmf : ∀ (fn : Fn) (first cap : Array Value) (w : World), (Instr.makeFunc fn first cap).run Try.prog w = .ok (.func fn first cap) w := fun _ _ _ _ => rfl
  have HST : Hid (((w.alloc (.map #[] 0)).alloc (.cells #[.map (some w.heap.size)] 86)).cell? ⟨w.heap.size + 1, 0, none⟩ = some (.map (some w.heap.size)) ∧ w.heap.size + 1 < ((w.alloc (.map #[] 0)).alloc (.cells #[.map (some w.heap.size)] 86)).heap.size ∧ TimesI ((w.alloc (.map #[] 0)).alloc (.cells #[.map (some w.heap.size)] 86)) w.heap.size (l.take 0) ∧ Below w.heap.size w ((w.alloc (.map #[] 0)).alloc (.cells #[.map (some w.heap.size)] 86))) := by
    refine ⟨?_, by simp [World.size_alloc], ?_, Go.Joins.below_alloc2 w _ _⟩
    · rw [show w.heap.size + 1 = (w.alloc (.map #[] 0)).heap.size by simp [World.size_alloc], World.cell?_alloc_new]; rfl
    · exact (TimesI.made w).below (Go.Joins.below_alloc1 _ _) (Nat.le_refl _)
  go_enter Try.func40, Try.ntmps40
  go_wp2
  go_loopw [9] (fun i wr => ∃ k : Nat, k ≤ L ∧ i = .int .i64 (k : Nat) ∧ Hid (wr.cell? ⟨w.heap.size + 1, 0, none⟩ = some (.map (some w.heap.size)) ∧ w.heap.size + 1 < wr.heap.size ∧ TimesI wr w.heap.size (l.take k) ∧ Below w.heap.size w wr)) (fun i _ => L - (intOf i).toNat)
  case atStart =>
    exact ⟨0, Nat.zero_le _, rfl, HST.out⟩
  case round =>
    obtain ⟨k, hk, rfl, HR⟩ := hrel
    by_cases hlt : k < L
    · obtain ⟨x, hx⟩ : ∃ x, l[k]? = some x := ⟨_, List.getElem?_eq_getElem (by rw [HL.out]; exact hlt)⟩
      have hltz : (k : Int) < (L : Int) := by omega
      obtain ⟨r1, r2, r3, r4⟩ := HR.out
      obtain ⟨b, off, rfl, hb, hc⟩ := IntsAt.cell (HP.out.below r4) hx
      have c0 := hc wr (Below.refl _ _)
      have hxo := HP.out.ok x (List.mem_of_getElem? hx)
      have hlk := r3.look x hxo
      obtain ⟨w1, e1, hT2, g1⟩ := r3.bump x hxo (by rw [List.length_take]; omega)
      have HN : Hid (w1.cell? ⟨w.heap.size + 1, 0, none⟩ = some (.map (some w.heap.size)) ∧ w.heap.size + 1 < w1.heap.size ∧ TimesI w1 w.heap.size (l.take (k + 1)) ∧ Below w.heap.size w w1) :=
        ⟨by rw [cell_grown g1 (by show w.heap.size + 1 < wr.heap.size; omega) (by show w.heap.size + 1 ≠ w.heap.size; omega)]; exact r1, by have := g1.size; omega, by rw [take_snoc hx]; exact hT2, r4.grown g1 r4.size (fun j hj => by have := Option.some.inj hj; omega)⟩
      obtain ⟨C, hC⟩ : ∃ C : Nat, (l.take k).count x = C := ⟨_, rfl⟩
      rw [hC] at hlk e1
      have hCL : C ≤ 100000 := by rw [← hC]; exact Nat.le_trans (count_ltI _ _) (by rw [List.length_take]; omega)
      clear hT2 g1 hC r2 r3 r4 HR hc hx hb hxo
      go_wp2
      go_roundw
      case rel => exact ⟨k + 1, by omega, by go_num, HN.out⟩
      case measure => simp [intOf]; omega
    · obtain rfl : k = L := by omega
      go_wp2
      go_ret
      have := HR.out
      rw [take_all HL.out] at this
      exact ⟨rfl, this⟩
theorem count_posI (l : List Int) (x : Int) : decide ((0 : Int) < (l.count x : Int)) = l.contains x := by
  have := List.count_pos_iff (a := x) (l := l)
  by_cases h : x ∈ l
  · have := this.2 h
    simp [h]
  · have : ¬ 0 < l.count x := fun h' => h (this.1 h')
    simp [h]
theorem isI_any {w : World} {g b : Nat} {l : List Int} (hc : w.cell? ⟨g, 0, none⟩ = some (.map (some b))) (ht : TimesI w b l) (x : Int) (hx : intOk x) :
    Calls Try.prog 56 #[.int .i64 x, .pointer (some ⟨g, 0, none⟩)] w fun e w' => e = .returned (.bool (l.contains x)) ∧ w' = w := by
  have hl := ht.look x hx
  have hcp := Lib.hid (count_posI l x)
  obtain ⟨C, hC⟩ : ∃ C : Nat, l.count x = C := ⟨_, rfl⟩
  rw [hC] at hl hcp
  clear hC ht
  go_enter Try.func56, Try.ntmps56
  go_wp2
  go_ret
  exact ⟨by rw [← hcp.out]; simp, rfl⟩
/-- Pick's closure -/
structure BarAt (w : World) (h g b : Nat) (l : List Int) : Prop where
  lt : h < w.heap.size
  fn : w.cell? ⟨h, 0, none⟩ = some (.func (.func 56) #[] #[.pointer (some ⟨g, 0, none⟩)])
  glt : g < w.heap.size
  cell : w.cell? ⟨g, 0, none⟩ = some (.map (some b))
  times : TimesI w b l
theorem BarAt.below {w w' : World} {h g b : Nat} {l : List Int} (k : BarAt w h g b l) (hb : Below w.heap.size w w') : BarAt w' h g b l :=
  ⟨by have := k.lt; have := hb.size; omega, (hb.cell (p := ⟨h, 0, none⟩) k.lt).trans k.fn, by have := k.glt; have := hb.size; omega, (hb.cell (p := ⟨g, 0, none⟩) k.glt).trans k.cell, k.times.below hb (Nat.le_refl _)⟩
theorem bar_any {w : World} {h g b : Nat} {l : List Int} (k : BarAt w h g b l) (x : PL) (hx : x.ok) :
    Calls Try.prog 42 #[x.val, .pointer (some ⟨h, 0, none⟩)] w fun e w' => e = .returned (.bool (l.contains x.n)) ∧ Below w.heap.size w w' := by
  obtain ⟨W, hW⟩ : ∃ W, W = w.alloc (.cells #[.int .i64 x.n, .int .u64 x.s] 38) := ⟨_, rfl⟩
  have hb : Below w.heap.size w W := by rw [hW]; exact Go.Joins.below_alloc1 w _
  have k2 := k.below hb
  have hf := k2.fn
  have HI := Lib.hid (isI_any k2.cell k2.times x.n hx.1)
  have hen : ∀ args w, (callFunc 56 args).run Try.prog w = .ok (.enter 56 args) w := enters_of Try.func56 (by kernel_rfl) rfl
  have HB := Lib.hid hb
  clear k k2 hb
  subst hW
  go_enter Try.func42, Try.ntmps42
  go_wp2_with fail
  refine HI.out.mono ?_
  rintro e w1 ⟨rfl, rfl⟩
  go_wp2
  go_ret
  exact ⟨by simp, HB.out⟩
theorem BarAt.asks {w : World} {h g b : Nat} {l : List Int} (k : BarAt w h g b l) : AsksAt w 42 (.pointer (some ⟨h, 0, none⟩)) (fun x => l.contains x.n) :=
  ⟨enters_of Try.func42 (by kernel_rfl) rfl, fun _ hW x hx => bar_any (k.below hW) x hx⟩
/-- extend's closure: has a place that one's node -/
theorem there_any {w : World} {g : Nat} {p : PL} (hg : g < w.heap.size) (hc : w.cell? ⟨g, 0, none⟩ = some (.int .i64 p.n)) (x : PL) :
    Calls Try.prog 58 #[x.val, .pointer (some ⟨g, 0, none⟩)] w fun e w' => e = .returned (.bool (x.n == p.n)) ∧ Below w.heap.size w w' := by
  obtain ⟨W, hW⟩ : ∃ W, W = w.alloc (.cells #[.int .i64 x.n, .int .u64 x.s] 38) := ⟨_, rfl⟩
  have hb : Below w.heap.size w W := by rw [hW]; exact Go.Joins.below_alloc1 w _
  have c1 := (hb.cell (p := ⟨g, 0, none⟩) hg).trans hc
  have c0 : W.cell? ⟨w.heap.size, 0, none⟩ = some (.int .i64 x.n) := by rw [hW, World.cell?_alloc_new]; rfl
  have HB := Lib.hid hb
  clear hb hc
  subst hW
  go_enter Try.func58, Try.ntmps58
  go_wp2
  go_ret
  exact ⟨rfl, HB.out⟩
theorem there_asks {w : World} {g : Nat} {p : PL} (hg : g < w.heap.size) (hc : w.cell? ⟨g, 0, none⟩ = some (.int .i64 p.n)) : AsksAt w 58 (.pointer (some ⟨g, 0, none⟩)) (fun x => x.n == p.n) :=
  ⟨enters_of Try.func58 (by kernel_rfl) rfl, fun W hW x _ => there_any (by have := hW.size; omega) ((hW.cell (p := ⟨g, 0, none⟩) hg).trans hc) x⟩
end Go.Proofs.Ytnfjhpdpeihheaa
