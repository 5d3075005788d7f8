/- awake: all of the chapter's examples hold. -/
import Derived.Test.YtnfjhpdpeihheaaAwake
namespace Go.Proofs.Ytnfjhpdpeihheaa
open Go.RowKit Go.Maps Go.Shelf
theorem OneFrag.new (w : World) (f : Int) (a : Option Addr) (E c : Nat) : OneFrag (w.alloc (.cells #[.int .u64 f, .slice a E c] 25)) w.heap.size 0 f a E c :=
  ⟨by rw [World.size_alloc]; omega, (Box25.new w f (.slice a E c)).c0, (Box25.new w f (.slice a E c)).c1⟩
/-- where awake looks -/
structure Look (W : World) (bx lb g pg pc : Nat) : Prop where
  box : Box25 W bx 3 (.slice (some ⟨g, 0, none⟩) 3 3)
  one : OneFrag W lb 0 3 (some ⟨g, 0, none⟩) 3 3
  row : PsAt W (.slice (some ⟨g, 0, none⟩) 3 3) tri
  pick : PsAt W (.slice (some ⟨pg, 0, none⟩) 2 pc) [⟨7, 1⟩, ⟨9, 1⟩]
theorem Look.below {W W' : World} {bx lb g pg pc : Nat} (h : Look W bx lb g pg pc) (hb : Below W.heap.size W W') : Look W' bx lb g pg pc :=
  ⟨h.box.below hb, h.one.below hb, h.row.below hb, h.pick.below hb⟩
theorem OwnPs.form {base : Nat} {w : World} {v : Value} {l : List PL} (h : OwnPs base w v l) (hok : ∀ q ∈ l, q.ok) : ∃ a c, v = .slice a l.length c := by
  obtain ⟨a, c, hv, _⟩ := (h.at hok).form
  exact ⟨a, c, hv⟩
theorem look_set {W : World} {bx lb g pg pc : Nat} (h : Look W bx lb g pg pc) (k : Int) (r : List PL) (hk : 0 ≤ k ∧ k ≤ 100) (hr : setL 3 tri 2 k = r) (hok : ∀ q ∈ r, q.ok) :
    Calls Try.prog 28 #[.slice (some ⟨lb, 0, none⟩) 1 1, .int .i64 2, .int .u64 k] W fun e w' => ∃ a c, e = .returned (.slice a r.length c) ∧ PsAt w' (.slice a r.length c) r ∧ Below W.heap.size W w' := by
  refine (set_any lb 0 1 3 2 k (some ⟨g, 0, none⟩) 3 tri W h.one h.row (by decide) (by decide) ⟨by omega, by omega⟩).mono ?_
  rintro e w' ⟨v', rfl, ho, hb⟩
  rw [hr] at ho
  obtain ⟨a, c, rfl⟩ := ho.form hok
  exact ⟨a, c, rfl, ho.at hok, hb⟩
theorem two_new (w : World) (x y : Int) (hx : 0 ≤ x ∧ x ≤ 100) (hy : 0 ≤ y ∧ y ≤ 100) : PsAt (w.alloc (.cells #[.int .i64 x, .int .u64 1, .int .i64 y, .int .u64 1] 38)) (.slice (some ⟨w.heap.size, 0, none⟩) 2 2) [⟨x, 1⟩, ⟨y, 1⟩] := by
  refine PsAt.new w [⟨x, 1⟩, ⟨y, 1⟩] (by simp) (fun q hq => by
    simp only [List.mem_cons, List.not_mem_nil, or_false] at hq
    rcases hq with rfl | rfl
    · exact small_ok _ hx
    · exact small_ok _ hy) _ fun j q r hj hr => ?_
  have hjl := (List.getElem?_eq_some_iff.1 hj).1
  simp only [List.length_cons, List.length_nil] at hjl
  rcases (show j = 0 ∨ j = 1 by omega) with rfl | rfl <;> (simp at hj; subst hj; rcases (show r = 0 ∨ r = 1 by omega) with rfl | rfl <;> rfl)
theorem pick_tri {W : World} {g s : Nat} {n : Int} (hs : W.heap.size = s) (hr : PsAt W (.slice (some ⟨g, 0, none⟩) 3 3) tri) :
    Calls Try.prog 18 #[.slice (some ⟨g, 0, none⟩) 3 3, .int .i64 3, .int .i64 n, .slice (some ⟨s, 0, none⟩) 1 1] (W.alloc (.cells #[.int .i64 8] 3)) fun x w' => ∃ v', x = .returned (.tuple #[v', .int .i64 (if pickOk 3 n = true then (if ((picked tri 3 [8]).length : Int) < n then 3 else 0) else 1)]) ∧ OwnPs (s + 1) w' v' (if pickOk 3 n = true then (if ((picked tri 3 [8]).length : Int) < n then [] else picked tri 3 [8]) else []) ∧ Below W.heap.size W w' := by
  subst hs
  have hb := Go.Joins.below_alloc1 W (.cells #[.int .i64 8] 3)
  refine (pick_any _ _ tri 3 n [8] _ (hr.below hb) (IntsAt.new W [8] (by decide) (by decide)) (by decide) (by decide)).mono ?_
  rintro x w' ⟨v', rfl, ho, hb'⟩
  rw [World.size_alloc] at ho
  exact ⟨v', rfl, ho, hb.trans (hb'.mono hb.size)⟩
set_option maxRecDepth 100000 in
set_option maxHeartbeats 4000000 in
theorem awake_any (w : World) : Calls Try.prog 11 #[] w fun e w' => e = .returned (.bool true) ∧ Below w.heap.size w w' := by
  have E2 : (if pickOk 3 2 = true then (if ((picked tri 3 [8]).length : Int) < (2 : Int) then (3 : Int) else 0) else 1) = 0 := by decide
  have L2 : (if pickOk 3 2 = true then (if ((picked tri 3 [8]).length : Int) < (2 : Int) then [] else picked tri 3 [8]) else []) = [⟨7, 1⟩, ⟨9, 1⟩] := by decide
  have E3 : (if pickOk 3 3 = true then (if ((picked tri 3 [8]).length : Int) < (3 : Int) then (3 : Int) else 0) else 1) = 3 := by decide
  have T79 : ∀ q ∈ ([⟨7, 1⟩, ⟨9, 1⟩] : List PL), q.ok := fun q hq => by
    simp only [List.mem_cons, List.not_mem_nil, or_false] at hq
    rcases hq with rfl | rfl <;> exact small_ok _ (by decide)
  go_enter Try.func11, Try.ntmps11
  go_wp2_with fail
  refine (three_any w).mono ?_
  rintro e w1 ⟨g, rfl, hp1, hb1⟩
  obtain ⟨W1, hW1⟩ : ∃ W1, W1 = w1.alloc (.cells #[.int .u64 3, .slice (some ⟨g, 0, none⟩) 3 3] 25) := ⟨_, rfl⟩
  have hB1 : Below w1.heap.size w1 W1 := by rw [hW1]; exact Go.Joins.below_alloc1 _ _
  have hx1 : Box25 W1 w1.heap.size 3 (.slice (some ⟨g, 0, none⟩) 3 3) := by rw [hW1]; exact Box25.new _ _ _
  have hs1 : W1.heap.size = w1.heap.size + 1 := by rw [hW1, World.size_alloc]
  obtain ⟨W2, hW2⟩ : ∃ W2, W2 = W1.alloc (.cells #[.int .u64 3, .slice (some ⟨g, 0, none⟩) 3 3] 25) := ⟨_, rfl⟩
  have hB2 : Below W1.heap.size W1 W2 := by rw [hW2]; exact Go.Joins.below_alloc1 _ _
  have ho2 : OneFrag W2 W1.heap.size 0 3 (some ⟨g, 0, none⟩) 3 3 := by rw [hW2]; exact OneFrag.new _ _ _ _ _
  have hp2 := (hp1.below hB1).below hB2
  have hx2 := hx1.below hB2
  have hb2 : Below w.heap.size w W2 := (hb1.trans (hB1.mono hb1.size)).trans (hB2.mono (Nat.le_trans hb1.size hB1.size))
  rw [hs1] at ho2
  have H2 := Lib.hid (And.intro hx2 (And.intro ho2 (And.intro hp2 hb2)))
  have hs2 : W2.heap.size = w1.heap.size + 1 + 1 := by rw [hW2, World.size_alloc, hs1]
  have HP2 := Lib.hid (pick_tri (n := 2) hs2 hp2)
  rw [E2, L2] at HP2
  have c0 := hx2.c0
  have c1 := hx2.c1
  have d0 := hx1.c0
  have d1 := hx1.c1
  clear hp1 hb1 hB1 hx1 hB2 ho2 hp2 hx2 hb2 E2 L2 hs2
  subst hW2
  subst hW1
  go_wp2_with fail
  refine HP2.out.mono ?_
  rintro e w3 ⟨v3, rfl, ho3, hb3⟩
  obtain ⟨hx2, ho2, hp2, hb2⟩ := H2.out
  have hp3 := hp2.below hb3
  have hx3 := hx2.below hb3
  have ho3' := ho2.below hb3
  have hbb3 := hb2.trans (hb3.mono hb2.size)
  have hq3 := ho3.at T79
  have hoff : ∃ pg c3, v3 = .slice (some ⟨pg, 0, none⟩) 2 c3 := by
    rcases ho3.2 with ⟨_, h0⟩ | ⟨pg, cap, cur, rfl, _⟩
    · cases h0
    · exact ⟨pg, cap, rfl⟩
  obtain ⟨pg, c3, rfl⟩ := hoff
  have HP3 := Lib.hid (pick_tri (n := 3) rfl hp3)
  rw [E3] at HP3
  have H3 := Lib.hid (And.intro hx3 (And.intro ho3' (And.intro hp3 (And.intro hbb3 hq3))))
  have c0 := hx3.c0
  have c1 := hx3.c1
  clear hp3 hx3 ho3' hbb3 hq3 ho3 hb3 hx2 ho2 hp2 hb2 H2 HP2 E3
  go_wp2_with fail
  refine HP3.out.mono ?_
  rintro e w4 ⟨v4, rfl, -, hb4⟩
  obtain ⟨hx3, ho3', hp3, hbb3, hq3⟩ := H3.out
  have hpx3 := hq3
  obtain ⟨W, hW⟩ : ∃ W, W = w4 := ⟨_, rfl⟩
  have hlook : Look W w1.heap.size (w1.heap.size + 1) g pg c3 := by
    rw [hW]
    exact ⟨hx3.below hb4, ho3'.below hb4, hp3.below hb4, hpx3.below hb4⟩
  have BW := Lib.hid (show Below w.heap.size w W by rw [hW]; exact hbb3.trans (hb4.mono hbb3.size))
  clear hb4 hx3 ho3' hp3 hbb3 hq3 hpx3 H3 HP3 c0 c1 d0 d1 hs1
  subst hW
  have HL := Lib.hid (show ∀ W', Below W.heap.size W W' → Look W' w1.heap.size (w1.heap.size + 1) g pg c3 from fun W' h => hlook.below h)
  have HC := Lib.hid (show ∀ W', Below W.heap.size W W' → (W'.cell? ⟨w1.heap.size, 0, none⟩ = some (.int .u64 3) ∧ W'.cell? ⟨w1.heap.size, 1, none⟩ = some (.slice (some ⟨g, 0, none⟩) 3 3)) ∧ W'.cell? ⟨pg, 2, none⟩ = some (.int .i64 9) ∧ W'.cell? ⟨pg, 3, none⟩ = some (.int .u64 1) from fun W' h => by
    have hl := hlook.below h
    obtain ⟨b, o, hb, _, hc⟩ := PsAt.cell hl.pick (j := 1) (x := ⟨9, 1⟩) rfl
    cases hb
    obtain ⟨e0, e1⟩ := hc W' (Below.refl _ _)
    exact ⟨⟨hl.box.c0, hl.box.c1⟩, e0, e1⟩)
  clear hlook
  have S3 := Lib.hid (show ∀ W', Below W.heap.size W W' → _ from fun W' h => look_set (HL.out W' h) 3 [⟨7, 1⟩, ⟨8, 1⟩] (by decide) (by decide) (fun q hq => by
    simp only [List.mem_cons, List.not_mem_nil, or_false] at hq
    rcases hq with rfl | rfl <;> exact small_ok _ (by decide)))
  have S5 := Lib.hid (show ∀ W', Below W.heap.size W W' → _ from fun W' h => look_set (HL.out W' h) 5 [⟨9, 1⟩, ⟨7, 1⟩] (by decide) (by decide) (fun q hq => by
    simp only [List.mem_cons, List.not_mem_nil, or_false] at hq
    rcases hq with rfl | rfl <;> exact small_ok _ (by decide)))
  have S2 := Lib.hid (show ∀ W', Below W.heap.size W W' → _ from fun W' h => look_set (HL.out W' h) 2 [] (by decide) (by decide) (fun q hq => by cases hq))
  have M1 := Lib.hid (show ∀ W' a c, Below W.heap.size W W' → PsAt W' (.slice a 2 c) [⟨7, 1⟩, ⟨8, 1⟩] → Calls Try.prog 23 #[.slice a 2 c, .slice (some ⟨g, 0, none⟩) 2 3] W' fun e w' => e = .returned (.bool true) ∧ Below W'.heap.size W' w' from fun W' a c h hq =>
    same_any _ _ _ _ W' hq ((HL.out W' h).row.front (k := 2) (by decide)))
  have M6 := Lib.hid (show ∀ (v3 v5 : World) (a : Option Addr) (c : Nat), PsAt v3 (.slice a 2 c) [⟨9, 1⟩, ⟨7, 1⟩] → Below v3.heap.size v3 v5 → Calls Try.prog 23 #[.slice a 2 c, .slice (some ⟨v5.heap.size, 0, none⟩) 2 2] (v5.alloc (.cells #[.int .i64 9, .int .u64 1, .int .i64 7, .int .u64 1] 38)) fun e w' => e = .returned (.bool true) ∧ Below v5.heap.size v5 w' from fun v3 v5 a c hq hb =>
    (same_any _ _ _ _ _ ((hq.below hb).below (Go.Joins.below_alloc1 _ _)) (two_new v5 9 7 (by decide) (by decide))).mono fun e w' ⟨he, hb'⟩ => ⟨he, (Go.Joins.below_alloc1 _ _).trans (hb'.mono (Go.Joins.below_alloc1 _ _).size)⟩)
  have M9 := Lib.hid (show ∀ (v8 : World), Below W.heap.size W v8 → Calls Try.prog 16 #[.agg #[.int .u64 3, .slice (some ⟨g, 0, none⟩) 3 3], .int .i64 2, .int .i64 2, .slice (some ⟨v8.heap.size, 0, none⟩) 1 1] (v8.alloc (.cells #[.int .i64 7, .int .u64 1] 38)) fun e w' => e = .returned (.bool false) ∧ Below v8.heap.size v8 w' from fun v8 h =>
    (covered_any 3 2 2 _ 3 _ tri [⟨7, 1⟩] _ ((HL.out v8 h).row.below (Go.Joins.below_alloc1 _ _)) (ps_one v8 ⟨7, 1⟩ (small_ok _ (by decide))) (by decide) (by decide) (by decide) (by decide)).mono fun e w' ⟨he, hb'⟩ => ⟨he, (Go.Joins.below_alloc1 _ _).trans (hb'.mono (Go.Joins.below_alloc1 _ _).size)⟩)
  have M10 := Lib.hid (show ∀ (v9 : World), Below W.heap.size W v9 → Calls Try.prog 16 #[.agg #[.int .u64 3, .slice (some ⟨g, 0, none⟩) 3 3], .int .i64 2, .int .i64 2, .slice (some ⟨g, 0, none⟩) 3 3] v9 fun e w' => e = .returned (.bool true) ∧ Below v9.heap.size v9 w' from fun v9 h =>
    covered_any 3 2 2 _ 3 _ tri tri _ (HL.out v9 h).row (HL.out v9 h).row (by decide) (by decide) (by decide) (by decide))
  have B0 := Lib.hid (Below.refl W.heap.size W).drew
  have k1 := eql38 ⟨9, 1⟩ ⟨9, 1⟩
  have k2 := guard38
  rw [decide_eq_true (rfl : (⟨9, 1⟩ : PL) = ⟨9, 1⟩)] at k1
  dsimp only [PL.val] at k1
  have K1 : True := trivial
  have K2 : True := trivial
  have K3 : True := trivial
  have K4 : True := trivial
  have K5 : True := trivial
  have K6 : True := trivial
  have K7 : True := trivial
  have K8 : True := trivial
  have K9 : True := trivial
  have K10 : True := trivial
  have PL9 := Lib.hid (fun W => place_any 9 W)
  have PL7 := Lib.hid (fun W => place_any 7 W)
  go_wp2_with fail
  go_region_held (fun W' => (W'.cell? ⟨w1.heap.size, 0, none⟩ = some (.int .u64 3) ∧ W'.cell? ⟨w1.heap.size, 1, none⟩ = some (.slice (some ⟨g, 0, none⟩) 3 3)) ∧ W'.cell? ⟨pg, 2, none⟩ = some (.int .i64 9) ∧ W'.cell? ⟨pg, 3, none⟩ = some (.int .u64 1))
    ((refine HC.out _ ?_; (first | exact B11.out | exact B10.out | exact B9.out | exact B8.out.alloc B8.out.size _ | exact B8.out | exact B7.out | exact B6.out | exact B5.out.alloc B5.out.size _ | exact B5.out | exact B4.out | exact B3.out | exact B2.out | exact B1.out | exact B0.out))) (first
    | (clear K1; go_at_call 28; refine (S3.out _ B0.out).mono ?_; rintro e v1 ⟨a1, x1, rfl, hq, hb⟩; have B1 := Lib.hid (B0.out.trans (hb.mono B0.out.size)); have Q1 := Lib.hid hq; clear hb hq)
    | (clear K2; go_at_call 23; refine (M1.out _ _ _ B1.out Q1.out).mono ?_; rintro e v2 ⟨rfl, hb⟩; have B2 := Lib.hid (B1.out.trans (hb.mono B1.out.size)); clear hb)
    | (clear K3; go_at_call 28; refine (S5.out _ B2.out).mono ?_; rintro e v3 ⟨a3, x3, rfl, hq, hb⟩; have B3 := Lib.hid (B2.out.trans (hb.mono B2.out.size)); have Q3 := Lib.hid hq; clear hb hq)
    | (clear K4; go_at_call 33; refine (PL9.out _).mono ?_; rintro e v4 ⟨rfl, hb⟩; have B4 := Lib.hid (B3.out.trans (hb.mono B3.out.size)); have V4 := Lib.hid hb; clear hb)
    | (clear K5; go_at_call 33; refine (PL7.out _).mono ?_; rintro e v5 ⟨rfl, hb⟩; have B5 := Lib.hid (B4.out.trans (hb.mono B4.out.size)); have V5 := Lib.hid (V4.out.trans (hb.mono V4.out.size)); clear hb)
    | (clear K6; go_at_call 23; refine (M6.out _ _ _ _ Q3.out V5.out).mono ?_; rintro e v6 ⟨rfl, hb⟩; have B6 := Lib.hid (B5.out.trans (hb.mono B5.out.size)); clear hb)
    | (clear K7; go_at_call 28; refine (S2.out _ B6.out).mono ?_; rintro e v7 ⟨a7, x7, rfl, hq, hb⟩; have B7 := Lib.hid (B6.out.trans (hb.mono B6.out.size)); clear hb hq)
    | (clear K8; go_at_call 33; refine (PL7.out _).mono ?_; rintro e v8 ⟨rfl, hb⟩; have B8 := Lib.hid (B7.out.trans (hb.mono B7.out.size)); clear hb)
    | (clear K9; go_at_call 16; refine (M9.out _ B8.out).mono ?_; rintro e v9 ⟨rfl, hb⟩; have B9 := Lib.hid (B8.out.trans (hb.mono B8.out.size)); clear hb)
    | (clear K10; go_at_call 16; refine (M10.out _ B9.out).mono ?_; rintro e v10 ⟨rfl, hb⟩; have B10 := Lib.hid (B9.out.trans (hb.mono B9.out.size)); clear hb)
    | (go_at_call 33; refine (PL9.out _).mono ?_; rintro e v11 ⟨rfl, hb⟩; have B11 := Lib.hid (B10.out.trans (hb.mono B10.out.size)); clear hb))
  all_goals go_wp2
  all_goals go_ret
  all_goals exact ⟨rfl, BW.out.trans (B11.out.mono BW.out.size)⟩
end Go.Proofs.Ytnfjhpdpeihheaa
