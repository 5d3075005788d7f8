/- A net that nobody made; the law NetNobody. -/
import Derived.Test.YtbmebmkpjbgdoaaAwake
namespace Go.Proofs.Ytbmebmkpjbgdoaa
open Go.RowKit
theorem NotMade.below {w w' : World} {q : Option Addr} {B : Nat} (h : NotMade w q) (hb : Below B w w') (hB : w.heap.size ≤ B) : NotMade w' q := by
  rcases h with rfl | ⟨p, rfl, h⟩
  · exact .inl rfl
  · exact .inr ⟨p, rfl, (hb.cell (p := ⟨p, 227, none⟩) (Nat.lt_of_lt_of_le (World.block_lt_of_cell? w _ h) hB)).trans h⟩
/-- what such a call answers -/
def No (w : World) (v : Value) (e : Ending) (w' : World) : Prop := e = .returned v ∧ Below w.heap.size w w'
def zM : Value := .agg #[.int .i64 0, .int .i64 0, .slice none 0 0]
theorem no_of {w : World} {f : Nat} {args : Array Value} {v : Value} (h : Calls Try.prog f args w fun e w' => e = .returned v ∧ w = w') : Calls Try.prog f args w (No w v) := h.mono fun e w' ⟨h1, h2⟩ => ⟨h1, by rw [← h2]; exact Below.refl _ _⟩
set_option maxRecDepth 100000 in
theorem no_at {w : World} {q : Option Addr} (h : NotMade w q) (i : Int) : Calls Try.prog 17 #[.pointer q, .int .i64 i] w (No w (.tuple #[zM, .int .i64 4])) := by
  have HM : Hid (∀ o, Calls Try.prog 29 #[.pointer q, .int .i64 i] (w.alloc o) fun e w' => e = .returned (.bool false) ∧ w.alloc o = w') := fun o => holds_no q i _ (h.below (Go.Joins.below_alloc1 w o) (Nat.le_refl _))
  clear h
  go_enter Try.func17, Try.ntmps17
  go_wp2_with (go_at_call 29; refine (HM.out _).mono ?_; rintro e w1 ⟨rfl, rfl⟩)
  exact bodyPost_ret (results_msg (p := 4) (u := 5) rfl _ _ w.heap.size _ _ _ (0, 0) rfl (heap_alloc_new _ _)) rfl ⟨rfl, Go.Joins.below_alloc1 w _⟩
set_option maxRecDepth 100000 in
theorem no_deliver {w : World} {q : Option Addr} (h : NotMade w q) (i : Int) : Calls Try.prog 18 #[.pointer q, .int .i64 i] w (No w (.tuple #[zM, .int .i64 4])) := by
  have HAT : Hid (∀ o, Calls Try.prog 17 #[.pointer q, .int .i64 i] (w.alloc o) (No (w.alloc o) (.tuple #[zM, .int .i64 4]))) := fun o => no_at (h.below (Go.Joins.below_alloc1 w o) (Nat.le_refl _)) i
  clear h
  go_enter Try.func18, Try.ntmps18
  go_wp2_with fail
  refine (HAT.out _).mono ?_
  rintro e w1 ⟨rfl, hb1⟩
  unfold zM
  have hz : w1.heap[w.heap.size]? = some z3 := (hb1.block _ (by rw [World.size_alloc]; omega)).trans (heap_alloc_new _ _)
  have HB1 : Hid (Below w.heap.size w w1) := (Go.Joins.below_alloc1 w _).trans (hb1.mono (by rw [World.size_alloc]; omega))
  have q0 : ∀ o, (w1.alloc o).cell? ⟨w.heap.size, 0, none⟩ = some (.int .i64 0) := fun o => by rw [World.cell?_alloc_lt _ _ _ (lt_of_block hz), Go.Joins.cell_of_block hz]; rfl
  have q1 : ∀ o, (w1.alloc o).cell? ⟨w.heap.size, 1, none⟩ = some (.int .i64 0) := fun o => by rw [World.cell?_alloc_lt _ _ _ (lt_of_block hz), Go.Joins.cell_of_block hz]; rfl
  have q2 : ∀ o, (w1.alloc o).cell? ⟨w.heap.size, 2, none⟩ = some (.slice none 0 0) := fun o => by rw [World.cell?_alloc_lt _ _ _ (lt_of_block hz), Go.Joins.cell_of_block hz]; rfl
  have hz2 : ∀ o, (w1.alloc o).heap[w.heap.size]? = some z3 := fun o => by rw [heap_alloc_old (h := lt_of_block hz)]; exact hz
  have f0 : ∀ o j, (w1.alloc o).frozen? ⟨w.heap.size, j, none⟩ = false := fun o j => by simp [World.frozen?, hz2 o, z3]
  have HZ := Lib.hid hz2
  clear hb1 hz hz2
  go_wp2
  have hch := (chg3 (S := fun _ => False) ((Chg.of_below (S := fun _ => False) HB1.out (Nat.le_refl _)).alloc (.cells #[.int .i64 0, .int .i64 0, .slice none 0 0] 49)) (.inr (Nat.le_refl w.heap.size)) (.int .i64 0) (.int .i64 0) (.slice none 0 0)).below (Nat.le_refl _) fun _ h => h.elim
  exact bodyPost_ret (results_msg (p := 4) (u := 5) rfl _ _ w.heap.size _ _ _ (0, 0) rfl (fin3 (HZ.out _) _ _ _)) rfl ⟨rfl, hch⟩
set_option maxRecDepth 100000 in
theorem no_find {w : World} {q : Option Addr} (h : NotMade w q) (a b : Int) : Calls Try.prog 19 #[.pointer q, .int .i64 a, .int .i64 b] w (No w (.tuple #[.int .i64 0, .bool false])) := by
  have hb4 : ∀ o1 o2 o3 o4, Below w.heap.size w ((((w.alloc o1).alloc o2).alloc o3).alloc o4) := fun o1 o2 o3 o4 => ((((Below.refl _ w).alloc (Nat.le_refl _) _).alloc (by simp only [World.size_alloc]; omega) _).alloc (by simp only [World.size_alloc]; omega) _).alloc (by simp only [World.size_alloc]; omega) _
  have HM : Hid (∀ o1 o2 o3 o4, Calls Try.prog 27 #[.pointer q] ((((w.alloc o1).alloc o2).alloc o3).alloc o4) fun e w' => e = .returned (.bool false) ∧ (((w.alloc o1).alloc o2).alloc o3).alloc o4 = w') := fun o1 o2 o3 o4 => isMade_no q _ (h.below (hb4 _ _ _ _) (Nat.le_refl _))
  have HB := Lib.hid hb4
  clear h hb4
  go_enter Try.func19, Try.ntmps19
  go_wp2_with (go_at_call 27; refine (HM.out _ _ _ _).mono ?_; rintro e w1 ⟨rfl, rfl⟩)
  refine bodyPost_ret (v := .tuple #[.int .i64 0, .bool false]) ?_ rfl ⟨rfl, HB.out _ _ _ _⟩
  simp [results, Try.f19, go_sem]
set_option maxRecDepth 100000 in
theorem no_cut {w : World} {q : Option Addr} (h : NotMade w q) (a b : Int) : Calls Try.prog 14 #[.pointer q, .int .i64 a, .int .i64 b] w (No w (.int .i64 1)) := by
  have HT := Lib.hid (turn_no q a b true w h)
  clear h
  go_enter Try.func14, Try.ntmps14
  go_wp2_with (go_at_call 31; refine HT.out.mono ?_; rintro e w1 ⟨rfl, rfl⟩)
  go_ret
  exact ⟨rfl, Below.refl _ _⟩
set_option maxRecDepth 100000 in
theorem no_heal {w : World} {q : Option Addr} (h : NotMade w q) (a b : Int) : Calls Try.prog 23 #[.pointer q, .int .i64 a, .int .i64 b] w (No w (.int .i64 1)) := by
  have HT := Lib.hid (turn_no q a b false w h)
  clear h
  go_enter Try.func23, Try.ntmps23
  go_wp2_with (go_at_call 31; refine HT.out.mono ?_; rintro e w1 ⟨rfl, rfl⟩)
  go_ret
  exact ⟨rfl, Below.refl _ _⟩
set_option maxRecDepth 100000 in
theorem no_send {w : World} {q : Option Addr} (h : NotMade w q) (a b : Int) (u : Value) : Calls Try.prog 24 #[.pointer q, .int .i64 a, .int .i64 b, u] w (No w (.int .i64 1)) := by
  have HL := Lib.hid (links_no q a b w h)
  clear h
  go_enter Try.func24, Try.ntmps24
  go_wp2_with (go_at_call 44; refine HL.out.mono ?_; rintro e w1 ⟨rfl, rfl⟩)
  go_ret
  exact ⟨rfl, Below.refl _ _⟩
set_option maxRecDepth 100000 in
theorem no_double {w : World} {q : Option Addr} (h : NotMade w q) (i : Int) : Calls Try.prog 25 #[.pointer q, .int .i64 i] w (No w (.int .i64 4)) := by
  have HM := Lib.hid (holds_no q i w h)
  clear h
  go_enter Try.func25, Try.ntmps25
  go_wp2_with (go_at_call 29; refine HM.out.mono ?_; rintro e w1 ⟨rfl, rfl⟩)
  go_ret
  exact ⟨rfl, Below.refl _ _⟩
set_option maxRecDepth 100000 in
set_option maxHeartbeats 4000000 in
theorem nobody_any (o a b i : Int) (ua : Option Addr) (un uc : Nat) (w : World) : Calls Try.prog 4 #[.agg #[.int .i64 o, .int .i64 a, .int .i64 b, .int .i64 i, .slice ua un uc]] w fun e w' => e = .returned (.bool true) ∧ Below w.heap.size w w' := by
  have HX : Hid (∀ W, Below w.heap.size w W → Calls Try.prog 9 #[] W fun e w' => e = .returned (.bool true) ∧ Below w.heap.size w w') := fun W hb => (awake_any W).mono fun e w' h => ⟨h.1, hb.trans (h.2.mono hb.size)⟩
  have hz := zero46
  have hzs := zNet_size
  have hz227 : zNet[227]? = some (.pointer none) := by
    unfold zNet
    rw [List.getElem?_toArray, show 227 = 225 + 1 + 1 by rfl, List.getElem?_cons_succ, List.getElem?_cons_succ, List.getElem?_append_right (by rw [falses_length]; exact Nat.le_refl _), falses_length]; rfl
  generalize zNet = Z at hz hzs hz227
  obtain ⟨W0, hW0⟩ : ∃ W0, W0 = ((w.alloc (.cells #[.int .i64 o, .int .i64 a, .int .i64 b, .int .i64 i, .slice ua un uc] 33)).alloc (.cells Z 46)).alloc (.cells #[.pointer none, .pointer (some ⟨w.heap.size + 1, 0, none⟩)] 25) := ⟨_, rfl⟩
  have hsz : W0.heap.size = w.heap.size + 3 := by rw [hW0, World.size_alloc, World.size_alloc, World.size_alloc]
  have hx0 : W0.heap[w.heap.size]? = some (.cells #[.int .i64 o, .int .i64 a, .int .i64 b, .int .i64 i, .slice ua un uc] 33 (0, 0)) := by
    rw [hW0, heap_alloc_old (h := by rw [World.size_alloc, World.size_alloc]; omega), heap_alloc_old (h := by rw [World.size_alloc]; omega), heap_alloc_new]
  have hx1 : W0.heap[w.heap.size + 1]? = some (.cells Z 46 (0, 0)) := by
    rw [hW0, heap_alloc_old (h := by rw [World.size_alloc, World.size_alloc]; omega), heap_alloc2_new]
  have hx2 : W0.heap[w.heap.size + 2]? = some (.cells #[.pointer none, .pointer (some ⟨w.heap.size + 1, 0, none⟩)] 25 (0, 0)) := by
    have h := heap_alloc_new ((w.alloc (.cells #[.int .i64 o, .int .i64 a, .int .i64 b, .int .i64 i, .slice ua un uc] 33)).alloc (.cells Z 46)) (.cells #[.pointer none, .pointer (some ⟨w.heap.size + 1, 0, none⟩)] 25)
    rw [World.size_alloc, World.size_alloc, ← hW0] at h
    exact h
  have HB0 : Hid (Below w.heap.size w W0) := by rw [hW0]; exact (Go.Joins.below_alloc2 w _ _).alloc (by rw [World.size_alloc, World.size_alloc]; omega) _
  have HF : Hid (∀ W, Below W0.heap.size W0 W → (W.heap[w.heap.size]? = some (.cells #[.int .i64 o, .int .i64 a, .int .i64 b, .int .i64 i, .slice ua un uc] 33 (0, 0)) ∧ W.heap[w.heap.size + 2]? = some (.cells #[.pointer none, .pointer (some ⟨w.heap.size + 1, 0, none⟩)] 25 (0, 0))) ∧ NotMade W none ∧ NotMade W (some ⟨w.heap.size + 1, 0, none⟩)) := fun W hb => by
    refine ⟨⟨?_, ?_⟩, .inl rfl, .inr ⟨_, rfl, ?_⟩⟩
    · rw [hb.block _ (by omega)]; exact hx0
    · rw [hb.block _ (by omega)]; exact hx2
    · have h1 := hx1
      rw [← hb.block _ (by omega)] at h1
      rw [Go.Joins.cell_of_block h1]; exact hz227
  clear hx0 hx1 hx2
  go_enter Try.func4, Try.ntmps4
  go_wp2
  rw [← hW0]
  clear hW0
  go_loopw [5] (fun i wr => ∃ j : Nat, j ≤ 2 ∧ i = .int .i64 (j : Nat) ∧ Hid (Below W0.heap.size W0 wr)) (fun i _ => 2 - (intOf i).toNat)
  case atStart => exact ⟨0, by omega, rfl, Below.refl _ _⟩
  case round =>
    obtain ⟨j, hj, rfl, HR⟩ := hrel
    by_cases hlt : j < 2
    · obtain ⟨q, hq, hnm⟩ : ∃ q, wr.cell? ⟨w.heap.size + 1 + 1, j, none⟩ = some (.pointer q) ∧ ∀ W, Below W0.heap.size W0 W → NotMade W q := by
        have h := HF.out wr HR.out
        have hj2 : j = 0 ∨ j = 1 := by omega
        rcases hj2 with rfl | rfl
        · exact ⟨none, by rw [Go.Joins.cell_of_block h.1.2]; rfl, fun W hb => (HF.out W hb).2.1⟩
        · exact ⟨some ⟨w.heap.size + 1, 0, none⟩, by rw [Go.Joins.cell_of_block h.1.2]; rfl, fun W hb => (HF.out W hb).2.2⟩
      have HN := Lib.hid hnm
      clear hnm hz hzs hz227
      have c1 : wr.cell? ⟨w.heap.size, 1, none⟩ = some (.int .i64 a) := by rw [Go.Joins.cell_of_block (HF.out wr HR.out).1.1]; rfl
      have c2 : wr.cell? ⟨w.heap.size, 2, none⟩ = some (.int .i64 b) := by rw [Go.Joins.cell_of_block (HF.out wr HR.out).1.1]; rfl
      have c3 : wr.cell? ⟨w.heap.size, 3, none⟩ = some (.int .i64 i) := by rw [Go.Joins.cell_of_block (HF.out wr HR.out).1.1]; rfl
      have c4 : wr.cell? ⟨w.heap.size, 4, none⟩ = some (.slice ua un uc) := by rw [Go.Joins.cell_of_block (HF.out wr HR.out).1.1]; rfl
      go_wp2_with fail
      refine (no_at (HN.out wr HR.out) i).mono ?_
      rintro e v0 ⟨rfl, hb⟩
      unfold zM
      have HV0 : Hid (Below W0.heap.size W0 (v0.alloc (.cells #[.int .i64 0, .int .i64 0, .slice none 0 0] 49))) := (HR.out.trans (hb.mono HR.out.size)).alloc (Nat.le_trans HR.out.size hb.size) _
      obtain ⟨u0, hu0⟩ : ∃ u0, u0 = v0.alloc (.cells #[.int .i64 0, .int .i64 0, .slice none 0 0] 49) := ⟨_, rfl⟩
      rw [← hu0] at HV0
      clear hb c1 c2 c3 c4 hq
      have c1 : u0.cell? ⟨w.heap.size, 1, none⟩ = some (.int .i64 a) := by rw [Go.Joins.cell_of_block (HF.out u0 HV0.out).1.1]; rfl
      have c2 : u0.cell? ⟨w.heap.size, 2, none⟩ = some (.int .i64 b) := by rw [Go.Joins.cell_of_block (HF.out u0 HV0.out).1.1]; rfl
      have c3 : u0.cell? ⟨w.heap.size, 3, none⟩ = some (.int .i64 i) := by rw [Go.Joins.cell_of_block (HF.out u0 HV0.out).1.1]; rfl
      have c4 : u0.cell? ⟨w.heap.size, 4, none⟩ = some (.slice ua un uc) := by rw [Go.Joins.cell_of_block (HF.out u0 HV0.out).1.1]; rfl
      subst hu0
      go_wp2_with fail
      refine (no_deliver (HN.out (v0.alloc (.cells #[.int .i64 0, .int .i64 0, .slice none 0 0] 49)) HV0.out) i).mono ?_
      rintro e v1 ⟨rfl, hb⟩
      unfold zM
      have HV1 : Hid (Below W0.heap.size W0 (v1.alloc (.cells #[.int .i64 0, .int .i64 0, .slice none 0 0] 49))) := (HV0.out.trans (hb.mono HV0.out.size)).alloc (Nat.le_trans HV0.out.size hb.size) _
      obtain ⟨u1, hu1⟩ : ∃ u1, u1 = v1.alloc (.cells #[.int .i64 0, .int .i64 0, .slice none 0 0] 49) := ⟨_, rfl⟩
      rw [← hu1] at HV1
      clear hb c1 c2 c3 c4
      have c1 : u1.cell? ⟨w.heap.size, 1, none⟩ = some (.int .i64 a) := by rw [Go.Joins.cell_of_block (HF.out u1 HV1.out).1.1]; rfl
      have c2 : u1.cell? ⟨w.heap.size, 2, none⟩ = some (.int .i64 b) := by rw [Go.Joins.cell_of_block (HF.out u1 HV1.out).1.1]; rfl
      have c3 : u1.cell? ⟨w.heap.size, 3, none⟩ = some (.int .i64 i) := by rw [Go.Joins.cell_of_block (HF.out u1 HV1.out).1.1]; rfl
      have c4 : u1.cell? ⟨w.heap.size, 4, none⟩ = some (.slice ua un uc) := by rw [Go.Joins.cell_of_block (HF.out u1 HV1.out).1.1]; rfl
      subst hu1
      go_wp2_with fail
      refine (no_find (HN.out (v1.alloc (.cells #[.int .i64 0, .int .i64 0, .slice none 0 0] 49)) HV1.out) a b).mono ?_
      rintro e v2 ⟨rfl, hb⟩
      have HV2 : Hid (Below W0.heap.size W0 v2) := HV1.out.trans (hb.mono HV1.out.size)
      clear hb c1 c2 c3 c4
      have c1 : v2.cell? ⟨w.heap.size, 1, none⟩ = some (.int .i64 a) := by rw [Go.Joins.cell_of_block (HF.out v2 HV2.out).1.1]; rfl
      have c2 : v2.cell? ⟨w.heap.size, 2, none⟩ = some (.int .i64 b) := by rw [Go.Joins.cell_of_block (HF.out v2 HV2.out).1.1]; rfl
      have c3 : v2.cell? ⟨w.heap.size, 3, none⟩ = some (.int .i64 i) := by rw [Go.Joins.cell_of_block (HF.out v2 HV2.out).1.1]; rfl
      have c4 : v2.cell? ⟨w.heap.size, 4, none⟩ = some (.slice ua un uc) := by rw [Go.Joins.cell_of_block (HF.out v2 HV2.out).1.1]; rfl
      go_wp2_with fail
      refine (no_of (nodes_no q v2 (HN.out v2 HV2.out))).mono ?_
      rintro e v3 ⟨rfl, hb⟩
      have HV3 : Hid (Below W0.heap.size W0 v3) := HV2.out.trans (hb.mono HV2.out.size)
      clear hb c1 c2 c3 c4
      have c1 : v3.cell? ⟨w.heap.size, 1, none⟩ = some (.int .i64 a) := by rw [Go.Joins.cell_of_block (HF.out v3 HV3.out).1.1]; rfl
      have c2 : v3.cell? ⟨w.heap.size, 2, none⟩ = some (.int .i64 b) := by rw [Go.Joins.cell_of_block (HF.out v3 HV3.out).1.1]; rfl
      have c3 : v3.cell? ⟨w.heap.size, 3, none⟩ = some (.int .i64 i) := by rw [Go.Joins.cell_of_block (HF.out v3 HV3.out).1.1]; rfl
      have c4 : v3.cell? ⟨w.heap.size, 4, none⟩ = some (.slice ua un uc) := by rw [Go.Joins.cell_of_block (HF.out v3 HV3.out).1.1]; rfl
      go_wp2_with fail
      refine (no_of (len_no q v3 (HN.out v3 HV3.out))).mono ?_
      rintro e v4 ⟨rfl, hb⟩
      have HV4 : Hid (Below W0.heap.size W0 v4) := HV3.out.trans (hb.mono HV3.out.size)
      clear hb c1 c2 c3 c4
      have c1 : v4.cell? ⟨w.heap.size, 1, none⟩ = some (.int .i64 a) := by rw [Go.Joins.cell_of_block (HF.out v4 HV4.out).1.1]; rfl
      have c2 : v4.cell? ⟨w.heap.size, 2, none⟩ = some (.int .i64 b) := by rw [Go.Joins.cell_of_block (HF.out v4 HV4.out).1.1]; rfl
      have c3 : v4.cell? ⟨w.heap.size, 3, none⟩ = some (.int .i64 i) := by rw [Go.Joins.cell_of_block (HF.out v4 HV4.out).1.1]; rfl
      have c4 : v4.cell? ⟨w.heap.size, 4, none⟩ = some (.slice ua un uc) := by rw [Go.Joins.cell_of_block (HF.out v4 HV4.out).1.1]; rfl
      go_wp2_with fail
      refine (no_of (open_no q a b v4 (HN.out v4 HV4.out))).mono ?_
      rintro e v5 ⟨rfl, hb⟩
      have HV5 : Hid (Below W0.heap.size W0 v5) := HV4.out.trans (hb.mono HV4.out.size)
      clear hb c1 c2 c3 c4
      have c1 : v5.cell? ⟨w.heap.size, 1, none⟩ = some (.int .i64 a) := by rw [Go.Joins.cell_of_block (HF.out v5 HV5.out).1.1]; rfl
      have c2 : v5.cell? ⟨w.heap.size, 2, none⟩ = some (.int .i64 b) := by rw [Go.Joins.cell_of_block (HF.out v5 HV5.out).1.1]; rfl
      have c3 : v5.cell? ⟨w.heap.size, 3, none⟩ = some (.int .i64 i) := by rw [Go.Joins.cell_of_block (HF.out v5 HV5.out).1.1]; rfl
      have c4 : v5.cell? ⟨w.heap.size, 4, none⟩ = some (.slice ua un uc) := by rw [Go.Joins.cell_of_block (HF.out v5 HV5.out).1.1]; rfl
      go_wp2_with fail
      refine (no_cut (HN.out v5 HV5.out) a b).mono ?_
      rintro e v6 ⟨rfl, hb⟩
      have HV6 : Hid (Below W0.heap.size W0 v6) := HV5.out.trans (hb.mono HV5.out.size)
      clear hb c1 c2 c3 c4
      have c1 : v6.cell? ⟨w.heap.size, 1, none⟩ = some (.int .i64 a) := by rw [Go.Joins.cell_of_block (HF.out v6 HV6.out).1.1]; rfl
      have c2 : v6.cell? ⟨w.heap.size, 2, none⟩ = some (.int .i64 b) := by rw [Go.Joins.cell_of_block (HF.out v6 HV6.out).1.1]; rfl
      have c3 : v6.cell? ⟨w.heap.size, 3, none⟩ = some (.int .i64 i) := by rw [Go.Joins.cell_of_block (HF.out v6 HV6.out).1.1]; rfl
      have c4 : v6.cell? ⟨w.heap.size, 4, none⟩ = some (.slice ua un uc) := by rw [Go.Joins.cell_of_block (HF.out v6 HV6.out).1.1]; rfl
      go_wp2_with fail
      refine (no_heal (HN.out v6 HV6.out) a b).mono ?_
      rintro e v7 ⟨rfl, hb⟩
      have HV7 : Hid (Below W0.heap.size W0 v7) := HV6.out.trans (hb.mono HV6.out.size)
      clear hb c1 c2 c3 c4
      have c1 : v7.cell? ⟨w.heap.size, 1, none⟩ = some (.int .i64 a) := by rw [Go.Joins.cell_of_block (HF.out v7 HV7.out).1.1]; rfl
      have c2 : v7.cell? ⟨w.heap.size, 2, none⟩ = some (.int .i64 b) := by rw [Go.Joins.cell_of_block (HF.out v7 HV7.out).1.1]; rfl
      have c3 : v7.cell? ⟨w.heap.size, 3, none⟩ = some (.int .i64 i) := by rw [Go.Joins.cell_of_block (HF.out v7 HV7.out).1.1]; rfl
      have c4 : v7.cell? ⟨w.heap.size, 4, none⟩ = some (.slice ua un uc) := by rw [Go.Joins.cell_of_block (HF.out v7 HV7.out).1.1]; rfl
      go_wp2_with fail
      refine (no_send (HN.out v7 HV7.out) a b (.slice ua un uc)).mono ?_
      rintro e v8 ⟨rfl, hb⟩
      have HV8 : Hid (Below W0.heap.size W0 v8) := HV7.out.trans (hb.mono HV7.out.size)
      clear hb c1 c2 c3 c4
      have c1 : v8.cell? ⟨w.heap.size, 1, none⟩ = some (.int .i64 a) := by rw [Go.Joins.cell_of_block (HF.out v8 HV8.out).1.1]; rfl
      have c2 : v8.cell? ⟨w.heap.size, 2, none⟩ = some (.int .i64 b) := by rw [Go.Joins.cell_of_block (HF.out v8 HV8.out).1.1]; rfl
      have c3 : v8.cell? ⟨w.heap.size, 3, none⟩ = some (.int .i64 i) := by rw [Go.Joins.cell_of_block (HF.out v8 HV8.out).1.1]; rfl
      have c4 : v8.cell? ⟨w.heap.size, 4, none⟩ = some (.slice ua un uc) := by rw [Go.Joins.cell_of_block (HF.out v8 HV8.out).1.1]; rfl
      go_wp2_with fail
      refine (no_of (drop_no q i v8 (HN.out v8 HV8.out))).mono ?_
      rintro e v9 ⟨rfl, hb⟩
      have HV9 : Hid (Below W0.heap.size W0 v9) := HV8.out.trans (hb.mono HV8.out.size)
      clear hb c1 c2 c3 c4
      have c1 : v9.cell? ⟨w.heap.size, 1, none⟩ = some (.int .i64 a) := by rw [Go.Joins.cell_of_block (HF.out v9 HV9.out).1.1]; rfl
      have c2 : v9.cell? ⟨w.heap.size, 2, none⟩ = some (.int .i64 b) := by rw [Go.Joins.cell_of_block (HF.out v9 HV9.out).1.1]; rfl
      have c3 : v9.cell? ⟨w.heap.size, 3, none⟩ = some (.int .i64 i) := by rw [Go.Joins.cell_of_block (HF.out v9 HV9.out).1.1]; rfl
      have c4 : v9.cell? ⟨w.heap.size, 4, none⟩ = some (.slice ua un uc) := by rw [Go.Joins.cell_of_block (HF.out v9 HV9.out).1.1]; rfl
      go_wp2_with fail
      refine (no_double (HN.out v9 HV9.out) i).mono ?_
      rintro e v10 ⟨rfl, hb⟩
      have HV10 : Hid (Below W0.heap.size W0 v10) := HV9.out.trans (hb.mono HV9.out.size)
      clear hb c1 c2 c3 c4
      have c1 : v10.cell? ⟨w.heap.size, 1, none⟩ = some (.int .i64 a) := by rw [Go.Joins.cell_of_block (HF.out v10 HV10.out).1.1]; rfl
      have c2 : v10.cell? ⟨w.heap.size, 2, none⟩ = some (.int .i64 b) := by rw [Go.Joins.cell_of_block (HF.out v10 HV10.out).1.1]; rfl
      have c3 : v10.cell? ⟨w.heap.size, 3, none⟩ = some (.int .i64 i) := by rw [Go.Joins.cell_of_block (HF.out v10 HV10.out).1.1]; rfl
      have c4 : v10.cell? ⟨w.heap.size, 4, none⟩ = some (.slice ua un uc) := by rw [Go.Joins.cell_of_block (HF.out v10 HV10.out).1.1]; rfl
      go_wp2_with fail
      refine (no_of (copy_no q v10 (HN.out v10 HV10.out))).mono ?_
      rintro e v11 ⟨rfl, hb⟩
      have HV11 : Hid (Below W0.heap.size W0 v11) := HV10.out.trans (hb.mono HV10.out.size)
      clear hb c1 c2 c3 c4
      have c1 : v11.cell? ⟨w.heap.size, 1, none⟩ = some (.int .i64 a) := by rw [Go.Joins.cell_of_block (HF.out v11 HV11.out).1.1]; rfl
      have c2 : v11.cell? ⟨w.heap.size, 2, none⟩ = some (.int .i64 b) := by rw [Go.Joins.cell_of_block (HF.out v11 HV11.out).1.1]; rfl
      have c3 : v11.cell? ⟨w.heap.size, 3, none⟩ = some (.int .i64 i) := by rw [Go.Joins.cell_of_block (HF.out v11 HV11.out).1.1]; rfl
      have c4 : v11.cell? ⟨w.heap.size, 4, none⟩ = some (.slice ua un uc) := by rw [Go.Joins.cell_of_block (HF.out v11 HV11.out).1.1]; rfl
      go_wp2
      go_roundw
      case rel => exact ⟨j + 1, by omega, by go_num, HV11.out⟩
      case measure => simp [intOf]; omega
    · obtain rfl : j = 2 := by omega
      go_wp2_with (go_at_call 9; refine (HX.out _ (HB0.out.trans (HR.out.mono HB0.out.size))).mono ?_; rintro e w9 ⟨rfl, hb⟩; have HBE := Lib.hid hb; clear hb)
      go_ret
      exact ⟨rfl, HBE.out⟩
end Go.Proofs.Ytbmebmkpjbgdoaa
