/- The document's net: Open, New, At, out. -/
import Derived.Test.YtbmebmkpjbgdoaaRef1
namespace Go.Proofs.Ytbmebmkpjbgdoaa
open Go.RowKit
set_option maxRecDepth 100000 in
theorem ropen_any {w : World} {R : Bks} {q : Nat} {d : Nt} {bv cv : Value} {vs : List MV} {ps : List Pr} (h : RefP w R q d bv cv vs ps) (a b : Int) :
    Calls Try.prog 41 #[.pointer (some ⟨q, 0, none⟩), .int .i64 a, .int .i64 b] w fun e w' => e = .returned (.bool (d.isOpen a b)) ∧ Below w.heap.size w w' := by
  unfold Nt.isOpen
  cases hl : d.links a b
  · have HL := Lib.hid (link_false d a b w h.c0 hl)
    clear h hl
    go_enter Try.func41, Try.ntmps41
    go_wp2_with (go_at_call 51; refine HL.out.mono ?_; rintro e w1 ⟨rfl, hb⟩; have HB := Lib.hid hb; clear hb)
    go_ret
    exact ⟨rfl, HB.out.alloc HB.out.size _⟩
  · have HL := Lib.hid (link_true d a b w h.c0 hl)
    have HC : Hid (∀ W, Below w.heap.size w W → Calls Try.prog 52 #[.pointer (some ⟨q, 0, none⟩), .agg #[.int .i64 (min a b), .int .i64 (max a b)]] W fun e w' => e = .returned (.bool (d.cuts.getD (place a b) false)) ∧ Below W.heap.size W w') := fun W hb => by
      have := rcut_any (h.below hb) (min a b) (max a b)
      rw [h.cuts a b hl] at this
      exact this
    generalize d.cuts.getD (place a b) false = B at HC ⊢
    obtain ⟨lo, hlo⟩ : ∃ lo, min a b = lo := ⟨_, rfl⟩
    obtain ⟨hi, hhi⟩ : ∃ hi, max a b = hi := ⟨_, rfl⟩
    rw [hlo, hhi] at HL HC
    clear h hl hlo hhi
    go_enter Try.func41, Try.ntmps41
    go_wp2_with (first | (go_at_call 51; refine HL.out.mono ?_; rintro e w1 ⟨rfl, hb⟩; have HB := Lib.hid hb; clear hb) | (go_at_call 52; refine (HC.out _ (HB.out.alloc HB.out.size _)).mono ?_; rintro e w2 ⟨rfl, hb2⟩; have HB2 : Hid (Below w.heap.size w w2) := (HB.out.alloc HB.out.size _).trans (hb2.mono (Below.size (HB.out.alloc HB.out.size _))); clear hb2))
    go_ret
    exact ⟨rfl, HB2.out⟩
theorem rnew_no (n : Int) (w : World) (hn : n < 1 ∨ 15 < n) : Calls Try.prog 11 #[.int .i64 n] w fun e w' => e = .returned (.pointer none) ∧ w = w' := by
  go_enter Try.func11, Try.ntmps11
  go_wp2
  all_goals (first | omega | (go_ret; exact ⟨rfl, rfl⟩))
theorem cutsAre_new (n : Nat) : CutsAre (Nt.new n) [] := fun a b _ => by
  unfold Nt.new
  simp only [List.not_mem_nil, decide_false]
  rw [List.getD_eq_getElem?_getD]
  by_cases h : place a b < 225
  · rw [List.getElem?_replicate, if_pos h]; rfl
  · rw [List.getElem?_replicate, if_neg h]; rfl
set_option maxRecDepth 100000 in
theorem rnew_yes (n : Nat) (w : World) (hn : 1 ≤ n ∧ n ≤ 15) : Calls Try.prog 11 #[.int .i64 (n : Nat)] w fun e w' => ∃ q, e = .returned (.pointer (some ⟨q, 0, none⟩)) ∧ RefAt w' (fun _ => False) q (Nt.new n) ∧ w.heap.size ≤ q ∧ q < w'.heap.size ∧ Below w.heap.size w w' := by
  have ha1 : ¬ ((n : Int) < 1) := by omega
  have ha2 : ¬ (15 < (n : Int)) := by omega
  have HF : Hid (RefAt (w.alloc (.cells #[.int .i64 (n : Nat), .slice none 0 0, .slice none 0 0] 64)) (fun _ => False) w.heap.size (Nt.new n) ∧ w.heap.size ≤ w.heap.size ∧ w.heap.size < (w.alloc (.cells #[.int .i64 (n : Nat), .slice none 0 0, .slice none 0 0] 64)).heap.size ∧ Below w.heap.size w (w.alloc (.cells #[.int .i64 (n : Nat), .slice none 0 0, .slice none 0 0] 64))) :=
    ⟨⟨Nt.ok.new hn, .slice none 0 0, .slice none 0 0, [], [], { block := heap_alloc_new _ _, row := World.ownsRow_nil _ _ _ _, bag := rfl, byt := fun v hv => (by cases hv), prs := World.ownsRow_nil _ _ _ _, cuts := cutsAre_new n, nd := List.nodup_nil, few := fun p hp => (by cases hp), bR := fun k hk => (by simp [Value.ownBlock] at hk), cR := fun k hk => (by simp [Value.ownBlock] at hk), qR := id, lt := fun _ h => h.elim }⟩, Nat.le_refl _, by rw [World.size_alloc]; omega, Go.Joins.below_alloc1 w _⟩
  go_enter Try.func11, Try.ntmps11
  go_wp2
  go_ret
  exact ⟨_, rfl, HF.out⟩
theorem RefP.at {w : World} {R : Bks} {q : Nat} {d : Nt} {bv cv : Value} {vs : List MV} {ps : List Pr} (h : RefP w R q d bv cv vs ps) {k : Nat} {m : Msg} (hk : d.bag[k]? = some m) : ∃ u, vs[k]? = some (m, u) ∧ BytesIn R w u m.b := by
  have hkl := (List.getElem?_eq_some_iff.1 hk).1
  have e := List.getElem?_eq_getElem (l := vs) (i := k) (by rw [h.len]; exact hkl)
  have e2 : (vs.map (·.1))[k]? = some m := by rw [h.bag]; exact hk
  rw [List.getElem?_map, e] at e2
  simp only [Option.map_some, Option.some.injEq] at e2
  have e3 : vs[k]? = some (m, (vs[k]'(by rw [h.len]; exact hkl)).2) := by rw [e, ← e2]
  exact ⟨_, e3, h.byt _ (List.mem_of_getElem? e3)⟩
set_option maxRecDepth 100000 in
set_option maxHeartbeats 1000000 in
theorem rat_any {w : World} {R : Bks} {q : Nat} {d : Nt} {bv cv : Value} {vs : List MV} {ps : List Pr} (h : RefP w R q d bv cv vs ps) (i : Int) :
    Calls Try.prog 33 #[.pointer (some ⟨q, 0, none⟩), .int .i64 i] w fun e w' => ∃ a c, e = .returned (.tuple #[.agg #[.int .i64 (d.at i).1.fr, .int .i64 (d.at i).1.to, .slice a (d.at i).1.b.length c], .int .i64 (d.at i).2]) ∧ BytesIn R w' (.slice a (d.at i).1.b.length c) (d.at i).1.b ∧ Below w.heap.size w w' := by
  obtain ⟨sa, sc, rfl⟩ := h.row.form
  have hP : ∀ o, RefP (w.alloc o) R q d (.slice sa vs.length sc) cv vs ps := fun o => h.below (Go.Joins.below_alloc1 w o)
  have c1 : ∀ o, (w.alloc o).cell? ⟨q, 1, none⟩ = some (.slice sa vs.length sc) := fun o => (hP o).c1
  unfold Nt.at
  cases hi : d.has i
  · have hi' : ¬ (0 ≤ i ∧ i < vs.length) := fun hx => by rw [(has_iff d i).2 (by rw [← h.len]; exact hx)] at hi; cases hi
    generalize vs.length = L at c1 hi'
    clear h hP hi
    by_cases h0 : 0 ≤ i
    · have h1 : ¬ i < (L : Int) := fun hx => hi' ⟨h0, hx⟩
      go_enter Try.func33, Try.ntmps33
      go_wp2
      exact bodyPost_ret (results_msg (p := 4) (u := 5) rfl _ _ w.heap.size _ _ _ (0, 0) rfl (heap_alloc_new _ _)) rfl ⟨none, 0, rfl, .inl ⟨rfl, rfl⟩, Go.Joins.below_alloc1 w _⟩
    · have h1 : i < 0 := by omega
      go_enter Try.func33, Try.ntmps33
      go_wp2
      exact bodyPost_ret (results_msg (p := 4) (u := 5) rfl _ _ w.heap.size _ _ _ (0, 0) rfl (heap_alloc_new _ _)) rfl ⟨none, 0, rfl, .inl ⟨rfl, rfl⟩, Go.Joins.below_alloc1 w _⟩
  · obtain ⟨h1, h2⟩ := (has_iff d i).1 hi
    have hmg := Nt.msg_get hi
    obtain ⟨k, rfl⟩ := Int.eq_ofNat_of_zero_le h1
    simp only [Int.toNat_natCast] at hmg
    generalize d.msg (k : Int) = m at hmg ⊢
    obtain ⟨u, hv, hu⟩ := h.at hmg
    obtain ⟨ua, uc, rfl, _⟩ := hu.form
    have hk : k < vs.length := by rw [h.len]; omega
    rcases h.row.2 with ⟨h3, h0⟩ | ⟨g, cap, cur, hv', hbg, hg, hnc, hcm, hcs, htake⟩
    · omega
    · injection hv' with e1
      subst e1
      have e0 : ∀ o, (w.alloc o).cell? ⟨g, k * 3, none⟩ = some (.int .i64 m.fr) := fun o => (hP o).row.cell hv 0 (by omega)
      have e1 : ∀ o, (w.alloc o).cell? ⟨g, k * 3 + 1, none⟩ = some (.int .i64 m.to) := fun o => (hP o).row.cell hv 1 (by omega)
      have e2 : ∀ o, (w.alloc o).cell? ⟨g, k * 3 + 2, none⟩ = some (.slice ua m.b.length uc) := fun o => (hP o).row.cell hv 2 (by omega)
      have HB : Hid (∀ o, BytesIn R (w.alloc o) (.slice ua m.b.length uc) m.b) := fun o => hu.below (Go.Joins.below_alloc1 w o) (Nat.le_refl _)
      obtain ⟨Z, hZ⟩ : ∃ Z, m.b.length = Z := ⟨_, rfl⟩
      obtain ⟨L, hL⟩ : ∃ L, vs.length = L := ⟨_, rfl⟩
      rw [hZ] at e2 HB
      rw [hL] at c1 hk
      have HZ := Lib.hid hZ
      simp only [if_true]
      clear h hP hi h1 h2 hmg hv hu hbg hg hnc hcm hcs htake hZ hL
      go_enter Try.func33, Try.ntmps33
      go_wp2
      refine bodyPost_ret (results_msg (p := 4) (u := 5) rfl _ _ w.heap.size _ _ _ (0, 0) rfl (heap_alloc_new _ _)) rfl ⟨ua, uc, ?_, ?_, Go.Joins.below_alloc1 w _⟩
      · rw [HZ.out]; rfl
      · rw [HZ.out]; exact HB.out _
end Go.Proofs.Ytbmebmkpjbgdoaa
