/- Last, Ask; the document's. -/
import Derived.Test.YtclchlcfcnlmhaaFa
import Derived.Deep.Cut
namespace Go.Proofs.Ytclchlcfcnlmhaa
open Go.RowKit Go.Maps Go.Shelf
set_option linter.unusedSimpArgs false
/-- a row's last mark of a producer -/
def lst (l : List MK) (p : Int) : Option MK := l.reverse.find? fun m => decide (m.p = p)
theorem lst_none {l : List MK} {p : Int} (h : ∀ q ∈ l, decide (q.p = p) = false) : lst l p = none := by
  unfold lst
  rw [List.find?_eq_none]
  intro x hx
  rw [h x (List.mem_reverse.1 hx)]
  simp
theorem lst_some : ∀ {l : List MK} {p : Int} {k : Nat} {q : MK}, l[k]? = some q → q.p = p → (∀ j x, k < j → l[j]? = some x → decide (x.p = p) = false) → lst l p = some q := by
  intro l p k q hk hq hall
  unfold lst
  have hkl := (List.getElem?_eq_some_iff.1 hk).1
  have hs : l = l.take k ++ q :: l.drop (k + 1) := by
    have := List.take_append_drop k l
    rw [← List.getElem_cons_drop hkl, (List.getElem?_eq_some_iff.1 hk).2] at this
    exact this.symm
  rw [hs, List.reverse_append, List.reverse_cons, List.find?_append, List.find?_append]
  have : List.find? (fun m : MK => decide (m.p = p)) (l.drop (k + 1)).reverse = none := by
    rw [List.find?_eq_none]
    intro x hx
    obtain ⟨j, hj⟩ := List.getElem?_of_mem (List.mem_reverse.1 hx)
    rw [List.getElem?_drop] at hj
    rw [hall (k + 1 + j) x (by omega) hj]
    simp
  rw [this, List.find?_singleton, hq]
  simp
theorem lst_look {l : List MK} (h : Ris l) (p : Int) : lst l p = look l p := by
  cases hl : look l p with
  | none => exact lst_none fun q hq => by simpa using look_none.1 hl q hq
  | some m =>
    obtain ⟨hm, hp⟩ := look_mem hl
    obtain ⟨k, hk⟩ := List.getElem?_of_mem hm
    refine lst_some hk hp fun j x hj hx => ?_
    have hkl := (List.getElem?_eq_some_iff.1 hk)
    have hjl := (List.getElem?_eq_some_iff.1 hx)
    have := List.pairwise_iff_getElem.1 h k j hkl.1 hjl.1 hj
    rw [hkl.2, hjl.2] at this
    simp
    omega
theorem BoxC.put3 {w : World} {g : Nat} {x : MK} (h : BoxC w g 26 x.cells.toArray) (m : MK) : BoxC (put3 w g 0 m) g 26 m.cells.toArray := ((h.set 0 (.int .i64 m.p)).set 1 (.int .u64 m.s)).set 2 (.int .u64 m.o)
theorem put3_below {n g : Nat} {a w : World} (h : Below n a w) (hg : n ≤ g) (o : Nat) (m : MK) : Below n a (put3 w g o m) := ((h.setCell (p := ⟨g, o, none⟩) hg (.int .i64 m.p)).setCell (p := ⟨g, o + 1, none⟩) hg (.int .u64 m.s)).setCell (p := ⟨g, o + 2, none⟩) hg (.int .u64 m.o)
def zMK : MK := ⟨0, 0, 0⟩
/-- what Last answers -/
def lastV (r : Option MK) : Value := .tuple #[(r.getD zMK).val, .bool r.isSome]
set_option maxHeartbeats 1000000 in
theorem last_any (v : Value) (l : List MK) (p : Int) (w : World) (hp : MsAt w v l) : Calls Try.prog 10 #[v, .int .i64 p] w fun e w' => e = .returned (lastV (lst l p)) ∧ Below w.heap.size w w' := by
  have HP := Lib.hid hp
  obtain ⟨W, hW⟩ : ∃ W, W = (w.alloc (.cells #[.int .i64 p] 3)).alloc (.cells #[.int .i64 0, .int .u64 0, .int .u64 0] 26) := ⟨_, rfl⟩
  have hB : Below w.heap.size w W := by rw [hW]; exact (Go.Joins.below_alloc1 w _).alloc (by simp) _
  have hb : W.cell? ⟨w.heap.size, 0, none⟩ = some (.int .i64 p) := by rw [hW]; exact (BoxC.alloc (BoxC.new w 3 #[.int .i64 p]) _).cell 0
  have hz : BoxC W (w.heap.size + 1) 26 zMK.cells.toArray := by rw [hW]; have := BoxC.new (w.alloc (.cells #[.int .i64 p] 3)) 26 zMK.cells.toArray; rwa [World.size_alloc] at this
  have HL := Lib.hid (lastf_any v l 33 (.pointer (some ⟨w.heap.size, 0, none⟩)) _ W (hp.below hB) (asks_of p _ W hb))
  have HB := Lib.hid (And.intro hB hz)
  obtain ⟨a, cap, rfl, hlen, -⟩ := hp
  obtain ⟨L, hL⟩ : ∃ L, l.length = L := ⟨_, rfl⟩
  rw [hL] at hlen HP HL ⊢
  have HLL := Lib.hid hL
  clear hL hz hb hB
  go_enter Try.func10, Try.ntmps10
  go_upto_region 1 with fail
  rw [← hW]
  clear hW
  go_wp2_with fail
  refine HL.out.mono ?_
  rintro e w1 ⟨z, rfl, hz, hb1⟩
  rcases hz with ⟨rfl, hall⟩ | ⟨k, rfl, ⟨q, hq, hqp⟩, hall⟩
  · have HN := Lib.hid (lst_none hall)
    have hx := HB.out.2.below hb1
    have HX := Lib.hid hx
    have HBB := Lib.hid (HB.out.1.trans (hb1.mono HB.out.1.size))
    have x0 : w1.cell? ⟨w.heap.size + 1, 0, none⟩ = some (.int .i64 0) := hx.cell 0
    have x1 : w1.cell? ⟨w.heap.size + 1, 1, none⟩ = some (.int .u64 0) := hx.cell 1
    have x2 : w1.cell? ⟨w.heap.size + 1, 2, none⟩ = some (.int .u64 0) := hx.cell 2
    have xf := hx.fz
    clear hx hall hb1
    go_wp2
    refine bodyPost_ret (results_m2 rfl _ _ (w.heap.size + 1) zMK rfl (HX.out.put3 zMK)) rfl ?_
    exact ⟨by rw [HN.out]; rfl, put3_below HBB.out (by omega) 0 zMK⟩
  · have HN := Lib.hid (lst_some hq (of_decide_eq_true hqp) hall)
    have hx := HB.out.2.below hb1
    have HX := Lib.hid hx
    have HBB := Lib.hid (HB.out.1.trans (hb1.mono HB.out.1.size))
    have hkL : (k : Int) < (L : Int) := by have := (List.getElem?_eq_some_iff.1 hq).1; have := HLL.out; omega
    obtain ⟨b, off, rfl, hb, hc⟩ := MsAt.cell (HP.out.below HBB.out) hq
    obtain ⟨c0, c1, c2⟩ := hc w1 (Below.refl _ _)
    have x0 : w1.cell? ⟨w.heap.size + 1, 0, none⟩ = some (.int .i64 0) := hx.cell 0
    have x1 : w1.cell? ⟨w.heap.size + 1, 1, none⟩ = some (.int .u64 0) := hx.cell 1
    have x2 : w1.cell? ⟨w.heap.size + 1, 2, none⟩ = some (.int .u64 0) := hx.cell 2
    have xf := hx.fz
    have hk0 : ¬ (k : Int) < 0 := by omega
    clear hx hall hb1 hc hqp hq hb
    go_wp2
    refine bodyPost_ret (results_m2 rfl _ _ (w.heap.size + 1) q rfl (HX.out.put3 q)) rfl ?_
    exact ⟨by rw [HN.out]; rfl, put3_below HBB.out (by omega) 0 q⟩
set_option maxHeartbeats 1000000 in
theorem rlast_any (v : Value) (l : List MK) (p : Int) (w : World) (hp : MsAt w v l) : Calls Try.prog 11 #[v, .int .i64 p] w fun e w' => e = .returned (lastV (lst l p)) ∧ Below w.heap.size w w' := by
  have HP := Lib.hid hp
  obtain ⟨W, hW⟩ : ∃ W, W = w.alloc (.cells #[.int .i64 0, .int .u64 0, .int .u64 0] 26) := ⟨_, rfl⟩
  have hB : Below w.heap.size w W := by rw [hW]; exact Go.Joins.below_alloc1 w _
  have hz : BoxC W w.heap.size 26 zMK.cells.toArray := by rw [hW]; exact BoxC.new w 26 zMK.cells.toArray
  obtain ⟨a, cap, rfl, hlen, -⟩ := hp
  obtain ⟨L, hL⟩ : ∃ L, l.length = L := ⟨_, rfl⟩
  rw [hL] at hlen HP ⊢
  have HLL := Lib.hid hL
  have H0 := Lib.hid (And.intro hB hz)
  clear hL hz hB
  go_enter Try.func11, Try.ntmps11
  go_upto_region 1 with fail
  rw [← hW]
  clear hW
  go_wp2
  go_loopw [6] (fun i wr => ∃ k : Nat, k ≤ L ∧ i = .int .i64 ((k : Int) - 1) ∧ Hid ((Below w.heap.size w wr ∧ BoxC wr w.heap.size 26 zMK.cells.toArray) ∧ ∀ j q, k ≤ j → l[j]? = some q → decide (q.p = p) = false)) (fun i _ => (intOf i + 1).toNat)
  case atStart => exact ⟨L, Nat.le_refl _, rfl, H0.out, fun j q hj hq => by have := (List.getElem?_eq_some_iff.1 hq).1; have := HLL.out; omega⟩
  case round =>
    obtain ⟨k, hk, rfl, HR⟩ := hrel
    have hx := HR.out.1.2
    have x0 : wr.cell? ⟨w.heap.size, 0, none⟩ = some (.int .i64 0) := hx.cell 0
    have x1 : wr.cell? ⟨w.heap.size, 1, none⟩ = some (.int .u64 0) := hx.cell 1
    have x2 : wr.cell? ⟨w.heap.size, 2, none⟩ = some (.int .u64 0) := hx.cell 2
    have xf := hx.fz
    have HX := Lib.hid hx
    clear hx
    rcases Nat.eq_zero_or_pos k with rfl | h0
    · have HN := Lib.hid (lst_none (p := p) fun q hq => by obtain ⟨j, hj⟩ := List.getElem?_of_mem hq; exact HR.out.2 j q (Nat.zero_le _) hj)
      go_wp2
      refine bodyPost_ret (results_m2 rfl _ _ w.heap.size zMK rfl (HX.out.put3 zMK)) rfl ?_
      exact ⟨by rw [HN.out]; rfl, put3_below HR.out.1.1 (by omega) 0 zMK⟩
    · obtain ⟨n, rfl⟩ : ∃ n, k = n + 1 := ⟨k - 1, by omega⟩
      obtain ⟨q, hq⟩ : ∃ x, l[n]? = some x := ⟨_, List.getElem?_eq_getElem (by rw [HLL.out]; omega)⟩
      have e1 : ((n + 1 : Nat) : Int) - 1 = (n : Nat) := by omega
      rw [e1]
      have hge : (0 : Int) ≤ (n : Int) := by omega
      have hltz : (n : Int) < (L : Int) := by omega
      obtain ⟨b, off, rfl, hb, hc⟩ := MsAt.cell (HP.out.below HR.out.1.1) hq
      obtain ⟨c0, c1, c2⟩ := hc wr (Below.refl _ _)
      have HQ := Lib.hid hq
      clear hc hq hb e1 h0
      by_cases hqp : q.p = p
      · have HN := Lib.hid (lst_some HQ.out hqp fun j x hj hx => HR.out.2 j x hj hx)
        have hbb : (q.p == p) = true := by simp [hqp]
        clear hqp
        go_wp2
        refine bodyPost_ret (results_m2 rfl _ _ w.heap.size q rfl (HX.out.put3 q)) rfl ?_
        exact ⟨by rw [HN.out]; rfl, put3_below HR.out.1.1 (by omega) 0 q⟩
      · have hbb : (q.p == p) = false := by simp [hqp]
        have HQP := Lib.hid hqp
        clear hqp x0 x1 x2 xf
        go_wp2
        go_roundw
        case rel =>
          refine ⟨n, by omega, by go_num, HR.out.1, fun j x hj hx => ?_⟩
          rcases Nat.lt_or_ge n j with h | h
          · exact HR.out.2 j x h hx
          · obtain rfl : j = n := by omega
            rw [HQ.out] at hx
            cases hx
            simpa using HQP.out
        case measure => simp [intOf]
/-- what Ask answers -/
def askV (l : List MK) (p s : Int) : Int × Int :=
  match lst l p with
  | some m => if m.s = s then (1, m.o) else if s < m.s then (2, 0) else (0, 0)
  | none => if 6 ≤ l.length then (3, 0) else (0, 0)
def askT (r : Int × Int) : Value := .tuple #[.int .i64 r.1, .int .u64 r.2]
set_option maxHeartbeats 1000000 in
theorem ask_any (v : Value) (l : List MK) (p s : Int) (w : World) (hp : MsAt w v l) : Calls Try.prog 12 #[v, .int .i64 p, .int .u64 s] w fun e w' => e = .returned (askT (askV l p s)) ∧ Below w.heap.size w w' := by
  have HL := Lib.hid (last_any v l p w hp)
  obtain ⟨r, hr⟩ : ∃ r, lst l p = r := ⟨_, rfl⟩
  unfold askV
  rw [hr] at HL ⊢
  obtain ⟨a, cap, rfl, hlen, -⟩ := hp
  obtain ⟨L, hL⟩ : ∃ L, l.length = L := ⟨_, rfl⟩
  rw [hL] at hlen HL ⊢
  clear hL hr
  go_enter Try.func12, Try.ntmps12
  go_wp2_with fail
  refine HL.out.mono ?_
  rintro e w1 ⟨rfl, hb1⟩
  have HB := Lib.hid (hb1.trans ((Go.Joins.below_alloc1 w1 (.cells #[.int .i64 (r.getD zMK).p, .int .u64 (r.getD zMK).s, .int .u64 (r.getD zMK).o] 26)).mono hb1.size))
  clear hb1
  unfold lastV
  cases r with
  | none =>
    by_cases h6 : 6 ≤ L
    · have h6' : (6 : Int) ≤ (L : Int) := by omega
      go_wp2
      refine bodyPost_ret (results_tmp2 rfl _ _ _) rfl ?_
      exact ⟨by simp [askT, h6], HB.out⟩
    · have h6' : ¬ (6 : Int) ≤ (L : Int) := by omega
      go_wp2
      refine bodyPost_ret (results_tmp2 rfl _ _ _) rfl ?_
      exact ⟨by simp [askT, h6], HB.out⟩
  | some m =>
    by_cases h1 : m.s = s
    · subst h1
      have hbb : (m.s == m.s) = true := by simp
      go_wp2_with fail
      go_quiet (fail)
      go_wp2
      refine bodyPost_ret (results_tmp2 rfl _ _ _) rfl ?_
      exact ⟨by simp [askT], drewN_below HB.out _⟩
    · have hbb : (m.s == s) = false := by simp [h1]
      by_cases h2 : s < m.s
      · go_wp2
        refine bodyPost_ret (results_tmp2 rfl _ _ _) rfl ?_
        exact ⟨by simp [askT, h1, h2], HB.out⟩
      · go_wp2
        refine bodyPost_ret (results_tmp2 rfl _ _ _) rfl ?_
        exact ⟨by simp [askT, h1, h2], HB.out⟩
set_option maxHeartbeats 1000000 in
theorem rask_any (v : Value) (l : List MK) (p s : Int) (w : World) (hp : MsAt w v l) : Calls Try.prog 13 #[v, .int .i64 p, .int .u64 s] w fun e w' => e = .returned (askT (askV l p s)) ∧ Below w.heap.size w w' := by
  have HL := Lib.hid (rlast_any v l p w hp)
  obtain ⟨r, hr⟩ : ∃ r, lst l p = r := ⟨_, rfl⟩
  unfold askV
  rw [hr] at HL ⊢
  obtain ⟨a, cap, rfl, hlen, -⟩ := hp
  obtain ⟨L, hL⟩ : ∃ L, l.length = L := ⟨_, rfl⟩
  rw [hL] at hlen HL ⊢
  clear hL hr
  go_enter Try.func13, Try.ntmps13
  go_wp2_with fail
  refine HL.out.mono ?_
  rintro e w1 ⟨rfl, hb1⟩
  have HB := Lib.hid (hb1.trans ((Go.Joins.below_alloc1 w1 (.cells #[.int .i64 (r.getD zMK).p, .int .u64 (r.getD zMK).s, .int .u64 (r.getD zMK).o] 26)).mono hb1.size))
  clear hb1
  unfold lastV
  cases r with
  | none =>
    by_cases h6 : 6 ≤ L
    · have h6' : (6 : Int) ≤ (L : Int) := by omega
      go_wp2
      refine bodyPost_ret (results_tmp2 rfl _ _ _) rfl ?_
      exact ⟨by simp [askT, h6], HB.out⟩
    · have h6' : ¬ (6 : Int) ≤ (L : Int) := by omega
      go_wp2
      refine bodyPost_ret (results_tmp2 rfl _ _ _) rfl ?_
      exact ⟨by simp [askT, h6], HB.out⟩
  | some m =>
    by_cases h1 : m.s = s
    · subst h1
      have hbb : (m.s == m.s) = true := by simp
      go_wp2_with fail
      go_quiet (fail)
      go_wp2
      refine bodyPost_ret (results_tmp2 rfl _ _ _) rfl ?_
      exact ⟨by simp [askT], drewN_below HB.out _⟩
    · have hbb : (m.s == s) = false := by simp [h1]
      by_cases h2 : s < m.s
      · go_wp2
        refine bodyPost_ret (results_tmp2 rfl _ _ _) rfl ?_
        exact ⟨by simp [askT, h1, h2], HB.out⟩
      · go_wp2
        refine bodyPost_ret (results_tmp2 rfl _ _ _) rfl ?_
        exact ⟨by simp [askT, h1, h2], HB.out⟩
end Go.Proofs.Ytclchlcfcnlmhaa
