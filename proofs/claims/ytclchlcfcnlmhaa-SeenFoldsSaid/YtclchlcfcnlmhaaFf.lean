/- Add, Join; entries: whether one may be, whether they may stand one behind the other; Take. -/
import Derived.Test.YtclchlcfcnlmhaaFe
namespace Go.Proofs.Ytclchlcfcnlmhaa
open Go.RowKit Go.Maps Go.Shelf
set_option linter.unusedSimpArgs false
theorem IntoPost.base {base : Nat} {w : World} {v : Value} {z : Int} {r : Option (List MK)} (h : IntoPost base w v z r) : ∀ b, b ≤ base → IntoPost b w v z r := fun b hb => by
  rcases h with ⟨x, hx, hz, ho⟩ | h
  · exact .inl ⟨x, hx, hz, ho.base_le hb⟩
  · exact .inr h
/-- what Join answers -/
def JoinPost (base : Nat) (w : World) (v : Value) (z : Int) (a b : List MK) : Prop :=
  (¬ (MayR a ∧ MayR b) ∧ z = 1 ∧ v = .slice none 0 0) ∨ ((MayR a ∧ MayR b) ∧ IntoPost base w v z (intoR a b))
set_option maxHeartbeats 1000000 in
theorem join_any (v u : Value) (a b : List MK) (w : World) (hp : MsAt w v a) (hq : MsAt w u b) :
    Calls Try.prog 26 #[v, u] w fun e w' => ∃ v' z, e = .returned (.tuple #[v', .int .i64 z]) ∧ JoinPost w.heap.size w' v' z a b ∧ Below w.heap.size w w' := by
  have HA := Lib.hid (mayR_any v a w hp)
  have HP := Lib.hid (And.intro hp hq)
  clear hp hq
  go_enter Try.func26, Try.ntmps26
  go_wp2_with fail
  refine HA.out.mono ?_
  rintro e w1 ⟨c1, rfl, h1, hb1⟩
  have HB1 := Lib.hid hb1
  cases c1
  · have HF := Lib.hid (show ¬ (MayR a ∧ MayR b) from fun h => by have := h1.2 h.1; cases this)
    clear h1 hb1
    go_wp2
    refine bodyPost_ret (results_tmp2 rfl _ _ _) rfl ?_
    exact ⟨_, _, rfl, .inl ⟨HF.out, rfl, rfl⟩, HB1.out⟩
  · have H1 := Lib.hid (h1.1 rfl)
    have HB := Lib.hid (mayR_any u b w1 (HP.out.2.below hb1))
    clear h1 hb1
    go_wp2_with fail
    refine HB.out.mono ?_
    rintro e w2 ⟨c2, rfl, h2, hb2⟩
    have HB2 := Lib.hid (HB1.out.trans (hb2.mono HB1.out.size))
    cases c2
    · have HF := Lib.hid (show ¬ (MayR a ∧ MayR b) from fun h => by have := h2.2 h.2; cases this)
      clear h2 hb2
      go_wp2
      refine bodyPost_ret (results_tmp2 rfl _ _ _) rfl ?_
      exact ⟨_, _, rfl, .inl ⟨HF.out, rfl, rfl⟩, HB2.out⟩
    · have H2 := Lib.hid (h2.1 rfl)
      have HI := Lib.hid (into_any v u a b w2 (HP.out.1.below HB2.out) (HP.out.2.below HB2.out) H1.out.ris H1.out.len)
      clear h2 hb2
      go_wp2_with fail
      refine HI.out.mono ?_
      rintro e w3 ⟨v3, z3, rfl, h3, hb3⟩
      have H3 := Lib.hid (And.intro h3.base (HB2.out.trans (hb3.mono HB2.out.size)))
      clear h3 hb3
      go_wp2
      refine bodyPost_ret (results_tmp2 rfl _ _ _) rfl ?_
      exact ⟨_, _, rfl, .inr ⟨⟨H1.out, H2.out⟩, H3.out.1 _ HB2.out.size⟩, H3.out.2⟩
/-- what Add answers -/
def AddPost (base : Nat) (w : World) (v : Value) (z : Int) (l : List MK) (m : MK) : Prop :=
  (¬ (MayR l ∧ m.may) ∧ z = 1 ∧ v = .slice none 0 0) ∨ ((MayR l ∧ m.may) ∧ IntoPost base w v z (intoR l [m]))
theorem ms_one {w : World} {g : Nat} {m : MK} (hm : m.ok) (h : BoxC w g 26 m.cells.toArray) : MsAt w (.slice (some ⟨g, 0, none⟩) 1 1) [m] :=
  ⟨_, 1, rfl, by simp, by simp, (fun e => by cases e), fun _ => ⟨g, 0, rfl, h.lt, fun j x hj => by
    have hj1 := (List.getElem?_eq_some_iff.1 hj).1
    have hj0 : j = 0 := by simpa using hj1
    subst hj0
    simp at hj
    subst hj
    exact ⟨hm, fun r hr => by rw [Nat.zero_mul, Nat.zero_add, h.cell, List.getElem?_toArray]⟩⟩⟩
set_option maxHeartbeats 1000000 in
theorem add_any (v : Value) (l : List MK) (m : MK) (w : World) (hp : MsAt w v l) (hm : m.ok) :
    Calls Try.prog 22 #[v, m.val] w fun e w' => ∃ v' z, e = .returned (.tuple #[v', .int .i64 z]) ∧ AddPost w.heap.size w' v' z l m ∧ Below w.heap.size w w' := by
  obtain ⟨W, hW⟩ : ∃ W, W = w.alloc (.cells #[.int .i64 m.p, .int .u64 m.s, .int .u64 m.o] 26) := ⟨_, rfl⟩
  have hB : Below w.heap.size w W := by rw [hW]; exact Go.Joins.below_alloc1 w _
  have hx : BoxC W w.heap.size 26 m.cells.toArray := by rw [hW]; exact BoxC.new w 26 m.cells.toArray
  have HA := Lib.hid (mayR_any v l W (hp.below hB))
  have HP := Lib.hid (And.intro hp (And.intro hx hB))
  have HMO := Lib.hid hm
  clear hp hx hm hB
  go_enter Try.func22, Try.ntmps22
  go_upto_region 1 with fail
  rw [← hW]
  clear hW
  go_wp2_with fail
  refine HA.out.mono ?_
  rintro e w1 ⟨c1, rfl, h1, hb1⟩
  have HB1 := Lib.hid (HP.out.2.2.trans (hb1.mono HP.out.2.2.size))
  have HX1 := Lib.hid (HP.out.2.1.below hb1)
  cases c1
  · have HF := Lib.hid (show ¬ (MayR l ∧ m.may) from fun h => by have := h1.2 h.1; cases this)
    clear h1 hb1
    go_wp2
    refine bodyPost_ret (results_tmp2 rfl _ _ _) rfl ?_
    exact ⟨_, _, rfl, .inl ⟨HF.out, rfl, rfl⟩, HB1.out⟩
  · have H1 := Lib.hid (h1.1 rfl)
    have HM := Lib.hid (may_any m w1)
    have x0 : w1.cell? ⟨w.heap.size, 0, none⟩ = some (.int .i64 m.p) := HX1.out.cell 0
    have x1 : w1.cell? ⟨w.heap.size, 1, none⟩ = some (.int .u64 m.s) := HX1.out.cell 1
    have x2 : w1.cell? ⟨w.heap.size, 2, none⟩ = some (.int .u64 m.o) := HX1.out.cell 2
    clear h1 hb1
    cases hmm : m.mayB
    · rw [hmm] at HM
      have HF := Lib.hid (show ¬ (MayR l ∧ m.may) from fun h => by have := (MK.mayB_iff HMO.out).2 h.2; rw [hmm] at this; cases this)
      clear hmm
      go_wp2_with fail
      refine HM.out.mono ?_
      rintro e w2 ⟨rfl, hb2⟩
      have HB2 := Lib.hid (HB1.out.trans (hb2.mono HB1.out.size))
      clear hb2
      go_wp2
      refine bodyPost_ret (results_tmp2 rfl _ _ _) rfl ?_
      exact ⟨_, _, rfl, .inl ⟨HF.out, rfl, rfl⟩, HB2.out⟩
    · rw [hmm] at HM
      have HT := Lib.hid ((MK.mayB_iff HMO.out).1 hmm)
      clear hmm
      go_wp2_with fail
      refine HM.out.mono ?_
      rintro e w2 ⟨rfl, hb2⟩
      have HB2 := Lib.hid (HB1.out.trans (hb2.mono HB1.out.size))
      have HX2 := HX1.out.below hb2
      clear x0 x1 x2
      have x0 : w2.cell? ⟨w.heap.size, 0, none⟩ = some (.int .i64 m.p) := HX2.cell 0
      have x1 : w2.cell? ⟨w.heap.size, 1, none⟩ = some (.int .u64 m.s) := HX2.cell 1
      have x2 : w2.cell? ⟨w.heap.size, 2, none⟩ = some (.int .u64 m.o) := HX2.cell 2
      obtain ⟨W3, hW3⟩ : ∃ W3, W3 = w2.alloc (.cells #[.int .i64 m.p, .int .u64 m.s, .int .u64 m.o] 26) := ⟨_, rfl⟩
      have hB3 : Below w.heap.size w W3 := by rw [hW3]; exact HB2.out.trans ((Go.Joins.below_alloc1 w2 _).mono HB2.out.size)
      have HI := Lib.hid (into_any v (.slice (some ⟨w2.heap.size, 0, none⟩) 1 1) l [m] W3 (HP.out.1.below hB3) (ms_one HMO.out (by rw [hW3]; exact BoxC.new w2 26 m.cells.toArray)) H1.out.ris H1.out.len)
      have HB3 := Lib.hid hB3
      clear hb2 HX2 hB3
      go_wp2_with fail
      rw [← hW3]
      clear hW3
      refine HI.out.mono ?_
      rintro e w3 ⟨v3, z3, rfl, h3, hb3⟩
      have H3 := Lib.hid (And.intro h3.base (HB3.out.trans (hb3.mono HB3.out.size)))
      clear h3 hb3 x0 x1 x2
      go_wp2
      refine bodyPost_ret (results_tmp2 rfl _ _ _) rfl ?_
      exact ⟨_, _, rfl, .inr ⟨⟨H1.out, HT.out⟩, H3.out.1 _ HB3.out.size⟩, H3.out.2⟩
end Go.Proofs.Ytclchlcfcnlmhaa
