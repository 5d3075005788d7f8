/- act: the net and the document's net do the same (first part). -/
import Derived.Test.YtbmebmkpjbgdoaaQDuo
import Derived.Deep.RegionHeld3
namespace Go.Proofs.Ytbmebmkpjbgdoaa
open Go.RowKit
def ActDoes (w : Fr) (K : Bks) (wi : World) (p q : Nat) (d : Nt) (en : Ending) (w' : World) : Prop := en = .returned (.bool true) ∧ Duo w K w' p q d d ∧ Keep K wi w'
def Box (wi : World) (x a b i : Int) (u : Value) : World := wi.alloc (.cells #[.int .i64 x, .int .i64 a, .int .i64 b, .int .i64 i, u] 33)
theorem Duo.box {w : Fr} {wi : World} {K : Bks} {p q : Nat} {d e : Nt} (h : Duo w K wi p q d e) (x a b i : Int) (u : Value) : Duo w (fun k => K k ∨ k = wi.heap.size) (Box wi x a b i u) p q d e :=
  h.write (C := fun _ => False) (Chg.of_below (Go.Joins.below_alloc1 wi _) (Nat.le_refl _)) (fun _ h => h.elim) (fun k => k = wi.heap.size) fun k hk => ⟨by omega, by rw [World.size_alloc]; omega⟩
theorem Box.cells {wi W : World} {K : Bks} {x a b i : Int} {u : Value} (hk : Keep (fun k => K k ∨ k = wi.heap.size) (Box wi x a b i u) W) :
    W.cell? ⟨wi.heap.size, 0, none⟩ = some (.int .i64 x) ∧ W.cell? ⟨wi.heap.size, 1, none⟩ = some (.int .i64 a) ∧ W.cell? ⟨wi.heap.size, 2, none⟩ = some (.int .i64 b) ∧ W.cell? ⟨wi.heap.size, 3, none⟩ = some (.int .i64 i) ∧ W.cell? ⟨wi.heap.size, 4, none⟩ = some u := by
  have h := keep_block' hk (.inr rfl) (heap_alloc_new wi (.cells #[.int .i64 x, .int .i64 a, .int .i64 b, .int .i64 i, u] 33))
  refine ⟨?_, ?_, ?_, ?_, ?_⟩ <;> (rw [Go.Joins.cell_of_block h]; rfl)
set_option maxRecDepth 100000 in
set_option maxHeartbeats 2000000 in
theorem act_drop {w : Fr} {wi : World} {K : Bks} {p q : Nat} {d : Nt} (h : Duo w K wi p q d d) (a b i : Int) (u : Value) :
    Calls Try.prog 15 #[.pointer (some ⟨p, 0, none⟩), .pointer (some ⟨q, 0, none⟩), .agg #[.int .i64 2, .int .i64 a, .int .i64 b, .int .i64 i, u]] wi (ActDoes w K wi p q (d.drop i).2) := by
  obtain ⟨W1, hW1⟩ : ∃ W1, W1 = Box wi 2 a b i u := ⟨_, rfl⟩
  have hD := h.box 2 a b i u
  have HC : Hid (∀ W, Keep (fun k => K k ∨ k = wi.heap.size) W1 W → W.cell? ⟨wi.heap.size, 0, none⟩ = some (.int .i64 2) ∧ W.cell? ⟨wi.heap.size, 1, none⟩ = some (.int .i64 a) ∧ W.cell? ⟨wi.heap.size, 2, none⟩ = some (.int .i64 b) ∧ W.cell? ⟨wi.heap.size, 3, none⟩ = some (.int .i64 i) ∧ W.cell? ⟨wi.heap.size, 4, none⟩ = some u) := fun W hk => by rw [hW1] at hk; exact Box.cells hk
  have HK0 : Hid (Keep K wi W1) := by rw [hW1]; exact Keep.of_below (Go.Joins.below_alloc1 wi _)
  rw [← hW1] at hD
  unfold Box at hW1
  obtain ⟨c0, c1, c2, c3, c4⟩ := HC.out W1 (Keep.refl _ _)
  generalize hK1 : (fun k => K k ∨ k = wi.heap.size) = K1 at *
  have HKK : Hid (∀ k, K k → K1 k) := fun k hk => by rw [← hK1]; exact .inl hk
  clear hK1 h
  have HD0 : Hid (Duo w K1 W1.drew p q d d) := hD.still (Below.refl _ _).drew
  have HKD : Hid (Keep K1 W1 W1.drew) := Keep.of_below (Below.refl _ _).drew
  have HN : Hid (∀ e W, Duo w K1 W p q d e → Calls Try.prog 13 #[.pointer (some ⟨p, 0, none⟩), .int .i64 i] W fun en w' => en = .returned (.int .i64 (d.drop i).1) ∧ Duo w K1 w' p q (d.drop i).2 e ∧ Keep K1 W w') := fun e W hd => hd.net fun J hJ => hJ.does fun _ _ hn => drop_at hn i
  have HM : Hid (∀ d0 W, Duo w K1 W p q d0 d → Calls Try.prog 36 #[.pointer (some ⟨q, 0, none⟩), .int .i64 i] W fun en w' => en = .returned (.int .i64 (d.drop i).1) ∧ Duo w K1 w' p q d0 (d.drop i).2 ∧ Keep K1 W w') := fun d0 W hd => hd.ref fun R hR => rdrop_any hR i
  generalize (d.drop i).1 = r at HN HM
  generalize (d.drop i).2 = d' at HN HM ⊢
  clear hD
  go_enter Try.func15, Try.ntmps15
  go_wp2
  rw [← hW1]
  clear hW1 c0 c1 c2 c4
  have kr : (r == r) = true := by simp
  go_region_held (fun W => W.cell? ⟨wi.heap.size, 3, none⟩ = some (.int .i64 i)) ((first | exact c3 | exact c3')) (first
    | (go_at_call 13; refine (HN.out d _ HD0.out).mono ?_; rintro e w2 ⟨rfl, hd2, hk2⟩; have HD2 : Hid (Duo w K1 w2 p q d' d ∧ Keep K1 W1 w2) := ⟨hd2, HKD.out.trans hk2⟩; have c3' := (HC.out w2 HD2.out.2).2.2.2.1; clear hd2 hk2)
    | (go_at_call 13; refine (HN.out d' _ HE2.out.1).mono ?_; rintro e w3 ⟨rfl, hd3, hk3⟩; have HD3 : Hid (Duo w K1 w3 p q d' d' ∧ Keep K1 W1 w3) := ⟨hd3, HE2.out.2.trans hk3⟩; have c3' := (HC.out w3 HD3.out.2).2.2.2.1; clear hd3 hk3)
    | (go_at_call 36; refine (HM.out d' _ HD2.out.1).mono ?_; rintro e w3 ⟨rfl, hd3, hk3⟩; have HD3 : Hid (Duo w K1 w3 p q d' d' ∧ Keep K1 W1 w3) := ⟨hd3, HD2.out.2.trans hk3⟩; have c3' := (HC.out w3 HD3.out.2).2.2.2.1; clear hd3 hk3)
    | (go_at_call 36; refine (HM.out d _ HD0.out).mono ?_; rintro e w2 ⟨rfl, hd2, hk2⟩; have HE2 : Hid (Duo w K1 w2 p q d d' ∧ Keep K1 W1 w2) := ⟨hd2, HKD.out.trans hk2⟩; have c3' := (HC.out w2 HE2.out.2).2.2.2.1; clear hd2 hk2))
  all_goals go_wp2
  all_goals go_ret
  all_goals exact ⟨rfl, HD3.out.1.narrow HKK.out, HK0.out.trans (HD3.out.2.mono HKK.out)⟩
set_option maxRecDepth 100000 in
set_option maxHeartbeats 2000000 in
theorem act_double {w : Fr} {wi : World} {K : Bks} {p q : Nat} {d : Nt} (h : Duo w K wi p q d d) (a b i : Int) (u : Value) :
    Calls Try.prog 15 #[.pointer (some ⟨p, 0, none⟩), .pointer (some ⟨q, 0, none⟩), .agg #[.int .i64 3, .int .i64 a, .int .i64 b, .int .i64 i, u]] wi (ActDoes w K wi p q (d.double i).2) := by
  obtain ⟨W1, hW1⟩ : ∃ W1, W1 = Box wi 3 a b i u := ⟨_, rfl⟩
  have hD := h.box 3 a b i u
  have HC : Hid (∀ W, Keep (fun k => K k ∨ k = wi.heap.size) W1 W → W.cell? ⟨wi.heap.size, 0, none⟩ = some (.int .i64 3) ∧ W.cell? ⟨wi.heap.size, 1, none⟩ = some (.int .i64 a) ∧ W.cell? ⟨wi.heap.size, 2, none⟩ = some (.int .i64 b) ∧ W.cell? ⟨wi.heap.size, 3, none⟩ = some (.int .i64 i) ∧ W.cell? ⟨wi.heap.size, 4, none⟩ = some u) := fun W hk => by rw [hW1] at hk; exact Box.cells hk
  have HK0 : Hid (Keep K wi W1) := by rw [hW1]; exact Keep.of_below (Go.Joins.below_alloc1 wi _)
  rw [← hW1] at hD
  unfold Box at hW1
  obtain ⟨c0, c1, c2, c3, c4⟩ := HC.out W1 (Keep.refl _ _)
  generalize hK1 : (fun k => K k ∨ k = wi.heap.size) = K1 at *
  have HKK : Hid (∀ k, K k → K1 k) := fun k hk => by rw [← hK1]; exact .inl hk
  clear hK1 h
  have HD0 : Hid (Duo w K1 W1.drew p q d d) := hD.still (Below.refl _ _).drew
  have HKD : Hid (Keep K1 W1 W1.drew) := Keep.of_below (Below.refl _ _).drew
  have HN : Hid (∀ e W, Duo w K1 W p q d e → Calls Try.prog 25 #[.pointer (some ⟨p, 0, none⟩), .int .i64 i] W fun en w' => en = .returned (.int .i64 (d.double i).1) ∧ Duo w K1 w' p q (d.double i).2 e ∧ Keep K1 W w') := fun e W hd => hd.net fun J hJ => hJ.does fun _ _ hn => double_at hn i
  have HM : Hid (∀ d0 W, Duo w K1 W p q d0 d → Calls Try.prog 37 #[.pointer (some ⟨q, 0, none⟩), .int .i64 i] W fun en w' => en = .returned (.int .i64 (d.double i).1) ∧ Duo w K1 w' p q d0 (d.double i).2 ∧ Keep K1 W w') := fun d0 W hd => hd.ref fun R hR => rdouble_any hR i
  generalize (d.double i).1 = r at HN HM
  generalize (d.double i).2 = d' at HN HM ⊢
  clear hD
  go_enter Try.func15, Try.ntmps15
  go_wp2
  rw [← hW1]
  clear hW1 c0 c1 c2 c4
  have kr : (r == r) = true := by simp
  go_region_held (fun W => W.cell? ⟨wi.heap.size, 3, none⟩ = some (.int .i64 i)) ((first | exact c3 | exact c3')) (first
    | (go_at_call 25; refine (HN.out d _ HD0.out).mono ?_; rintro e w2 ⟨rfl, hd2, hk2⟩; have HD2 : Hid (Duo w K1 w2 p q d' d ∧ Keep K1 W1 w2) := ⟨hd2, HKD.out.trans hk2⟩; have c3' := (HC.out w2 HD2.out.2).2.2.2.1; clear hd2 hk2)
    | (go_at_call 25; refine (HN.out d' _ HE2.out.1).mono ?_; rintro e w3 ⟨rfl, hd3, hk3⟩; have HD3 : Hid (Duo w K1 w3 p q d' d' ∧ Keep K1 W1 w3) := ⟨hd3, HE2.out.2.trans hk3⟩; have c3' := (HC.out w3 HD3.out.2).2.2.2.1; clear hd3 hk3)
    | (go_at_call 37; refine (HM.out d' _ HD2.out.1).mono ?_; rintro e w3 ⟨rfl, hd3, hk3⟩; have HD3 : Hid (Duo w K1 w3 p q d' d' ∧ Keep K1 W1 w3) := ⟨hd3, HD2.out.2.trans hk3⟩; have c3' := (HC.out w3 HD3.out.2).2.2.2.1; clear hd3 hk3)
    | (go_at_call 37; refine (HM.out d _ HD0.out).mono ?_; rintro e w2 ⟨rfl, hd2, hk2⟩; have HE2 : Hid (Duo w K1 w2 p q d d' ∧ Keep K1 W1 w2) := ⟨hd2, HKD.out.trans hk2⟩; have c3' := (HC.out w2 HE2.out.2).2.2.2.1; clear hd2 hk2))
  all_goals go_wp2
  all_goals go_ret
  all_goals exact ⟨rfl, HD3.out.1.narrow HKK.out, HK0.out.trans (HD3.out.2.mono HKK.out)⟩
set_option maxRecDepth 100000 in
set_option maxHeartbeats 2000000 in
theorem act_cut {w : Fr} {wi : World} {K : Bks} {p q : Nat} {d : Nt} (h : Duo w K wi p q d d) (a b i : Int) (u : Value) :
    Calls Try.prog 15 #[.pointer (some ⟨p, 0, none⟩), .pointer (some ⟨q, 0, none⟩), .agg #[.int .i64 4, .int .i64 a, .int .i64 b, .int .i64 i, u]] wi (ActDoes w K wi p q (d.turn a b true).2) := by
  obtain ⟨W1, hW1⟩ : ∃ W1, W1 = Box wi 4 a b i u := ⟨_, rfl⟩
  have hD := h.box 4 a b i u
  have HC : Hid (∀ W, Keep (fun k => K k ∨ k = wi.heap.size) W1 W → W.cell? ⟨wi.heap.size, 0, none⟩ = some (.int .i64 4) ∧ W.cell? ⟨wi.heap.size, 1, none⟩ = some (.int .i64 a) ∧ W.cell? ⟨wi.heap.size, 2, none⟩ = some (.int .i64 b) ∧ W.cell? ⟨wi.heap.size, 3, none⟩ = some (.int .i64 i) ∧ W.cell? ⟨wi.heap.size, 4, none⟩ = some u) := fun W hk => by rw [hW1] at hk; exact Box.cells hk
  have HK0 : Hid (Keep K wi W1) := by rw [hW1]; exact Keep.of_below (Go.Joins.below_alloc1 wi _)
  rw [← hW1] at hD
  unfold Box at hW1
  obtain ⟨c0, c1, c2, c3, c4⟩ := HC.out W1 (Keep.refl _ _)
  generalize hK1 : (fun k => K k ∨ k = wi.heap.size) = K1 at *
  have HKK : Hid (∀ k, K k → K1 k) := fun k hk => by rw [← hK1]; exact .inl hk
  clear hK1 h
  have HD0 : Hid (Duo w K1 W1.drew p q d d) := hD.still (Below.refl _ _).drew
  have HKD : Hid (Keep K1 W1 W1.drew) := Keep.of_below (Below.refl _ _).drew
  have HN : Hid (∀ e W, Duo w K1 W p q d e → Calls Try.prog 14 #[.pointer (some ⟨p, 0, none⟩), .int .i64 a, .int .i64 b] W fun en w' => en = .returned (.int .i64 (d.turn a b true).1) ∧ Duo w K1 w' p q (d.turn a b true).2 e ∧ Keep K1 W w') := fun e W hd => hd.net fun J hJ => hJ.does fun _ _ hn => Cut_at hn a b
  have HM : Hid (∀ d0 W, Duo w K1 W p q d0 d → Calls Try.prog 38 #[.pointer (some ⟨q, 0, none⟩), .int .i64 a, .int .i64 b] W fun en w' => en = .returned (.int .i64 (d.turn a b true).1) ∧ Duo w K1 w' p q d0 (d.turn a b true).2 ∧ Keep K1 W w') := fun d0 W hd => hd.ref fun R hR => rturn_any hR a b
  generalize (d.turn a b true).1 = r at HN HM
  generalize (d.turn a b true).2 = d' at HN HM ⊢
  clear hD
  go_enter Try.func15, Try.ntmps15
  go_wp2
  rw [← hW1]
  clear hW1 c0 c3 c4
  have c12 := And.intro c1 c2
  clear c1 c2
  have kr : (r == r) = true := by simp
  go_region_held (fun W => W.cell? ⟨wi.heap.size, 1, none⟩ = some (.int .i64 a) ∧ W.cell? ⟨wi.heap.size, 2, none⟩ = some (.int .i64 b)) ((first | exact c12 | exact c12')) (first
    | (go_at_call 14; refine (HN.out d _ HD0.out).mono ?_; rintro e w2 ⟨rfl, hd2, hk2⟩; have HD2 : Hid (Duo w K1 w2 p q d' d ∧ Keep K1 W1 w2) := ⟨hd2, HKD.out.trans hk2⟩; have c12' := And.intro (HC.out w2 HD2.out.2).2.1 (HC.out w2 HD2.out.2).2.2.1; clear hd2 hk2)
    | (go_at_call 14; refine (HN.out d' _ HE2.out.1).mono ?_; rintro e w3 ⟨rfl, hd3, hk3⟩; have HD3 : Hid (Duo w K1 w3 p q d' d' ∧ Keep K1 W1 w3) := ⟨hd3, HE2.out.2.trans hk3⟩; have c12' := And.intro (HC.out w3 HD3.out.2).2.1 (HC.out w3 HD3.out.2).2.2.1; clear hd3 hk3)
    | (go_at_call 38; refine (HM.out d' _ HD2.out.1).mono ?_; rintro e w3 ⟨rfl, hd3, hk3⟩; have HD3 : Hid (Duo w K1 w3 p q d' d' ∧ Keep K1 W1 w3) := ⟨hd3, HD2.out.2.trans hk3⟩; have c12' := And.intro (HC.out w3 HD3.out.2).2.1 (HC.out w3 HD3.out.2).2.2.1; clear hd3 hk3)
    | (go_at_call 38; refine (HM.out d _ HD0.out).mono ?_; rintro e w2 ⟨rfl, hd2, hk2⟩; have HE2 : Hid (Duo w K1 w2 p q d d' ∧ Keep K1 W1 w2) := ⟨hd2, HKD.out.trans hk2⟩; have c12' := And.intro (HC.out w2 HE2.out.2).2.1 (HC.out w2 HE2.out.2).2.2.1; clear hd2 hk2))
  all_goals go_wp2
  all_goals go_ret
  all_goals exact ⟨rfl, HD3.out.1.narrow HKK.out, HK0.out.trans (HD3.out.2.mono HKK.out)⟩
set_option maxRecDepth 100000 in
set_option maxHeartbeats 2000000 in
theorem act_heal {w : Fr} {wi : World} {K : Bks} {p q : Nat} {d : Nt} (h : Duo w K wi p q d d) (a b i : Int) (u : Value) :
    Calls Try.prog 15 #[.pointer (some ⟨p, 0, none⟩), .pointer (some ⟨q, 0, none⟩), .agg #[.int .i64 5, .int .i64 a, .int .i64 b, .int .i64 i, u]] wi (ActDoes w K wi p q (d.turn a b false).2) := by
  obtain ⟨W1, hW1⟩ : ∃ W1, W1 = Box wi 5 a b i u := ⟨_, rfl⟩
  have hD := h.box 5 a b i u
  have HC : Hid (∀ W, Keep (fun k => K k ∨ k = wi.heap.size) W1 W → W.cell? ⟨wi.heap.size, 0, none⟩ = some (.int .i64 5) ∧ W.cell? ⟨wi.heap.size, 1, none⟩ = some (.int .i64 a) ∧ W.cell? ⟨wi.heap.size, 2, none⟩ = some (.int .i64 b) ∧ W.cell? ⟨wi.heap.size, 3, none⟩ = some (.int .i64 i) ∧ W.cell? ⟨wi.heap.size, 4, none⟩ = some u) := fun W hk => by rw [hW1] at hk; exact Box.cells hk
  have HK0 : Hid (Keep K wi W1) := by rw [hW1]; exact Keep.of_below (Go.Joins.below_alloc1 wi _)
  rw [← hW1] at hD
  unfold Box at hW1
  obtain ⟨c0, c1, c2, c3, c4⟩ := HC.out W1 (Keep.refl _ _)
  generalize hK1 : (fun k => K k ∨ k = wi.heap.size) = K1 at *
  have HKK : Hid (∀ k, K k → K1 k) := fun k hk => by rw [← hK1]; exact .inl hk
  clear hK1 h
  have HD0 : Hid (Duo w K1 W1.drew p q d d) := hD.still (Below.refl _ _).drew
  have HKD : Hid (Keep K1 W1 W1.drew) := Keep.of_below (Below.refl _ _).drew
  have HN : Hid (∀ e W, Duo w K1 W p q d e → Calls Try.prog 23 #[.pointer (some ⟨p, 0, none⟩), .int .i64 a, .int .i64 b] W fun en w' => en = .returned (.int .i64 (d.turn a b false).1) ∧ Duo w K1 w' p q (d.turn a b false).2 e ∧ Keep K1 W w') := fun e W hd => hd.net fun J hJ => hJ.does fun _ _ hn => Heal_at hn a b
  have HM : Hid (∀ d0 W, Duo w K1 W p q d0 d → Calls Try.prog 39 #[.pointer (some ⟨q, 0, none⟩), .int .i64 a, .int .i64 b] W fun en w' => en = .returned (.int .i64 (d.turn a b false).1) ∧ Duo w K1 w' p q d0 (d.turn a b false).2 ∧ Keep K1 W w') := fun d0 W hd => hd.ref fun R hR => rheal_any hR a b
  generalize (d.turn a b false).1 = r at HN HM
  generalize (d.turn a b false).2 = d' at HN HM ⊢
  clear hD
  go_enter Try.func15, Try.ntmps15
  go_wp2
  rw [← hW1]
  clear hW1 c0 c3 c4
  have c12 := And.intro c1 c2
  clear c1 c2
  have kr : (r == r) = true := by simp
  go_region_held (fun W => W.cell? ⟨wi.heap.size, 1, none⟩ = some (.int .i64 a) ∧ W.cell? ⟨wi.heap.size, 2, none⟩ = some (.int .i64 b)) ((first | exact c12 | exact c12')) (first
    | (go_at_call 23; refine (HN.out d _ HD0.out).mono ?_; rintro e w2 ⟨rfl, hd2, hk2⟩; have HD2 : Hid (Duo w K1 w2 p q d' d ∧ Keep K1 W1 w2) := ⟨hd2, HKD.out.trans hk2⟩; have c12' := And.intro (HC.out w2 HD2.out.2).2.1 (HC.out w2 HD2.out.2).2.2.1; clear hd2 hk2)
    | (go_at_call 23; refine (HN.out d' _ HE2.out.1).mono ?_; rintro e w3 ⟨rfl, hd3, hk3⟩; have HD3 : Hid (Duo w K1 w3 p q d' d' ∧ Keep K1 W1 w3) := ⟨hd3, HE2.out.2.trans hk3⟩; have c12' := And.intro (HC.out w3 HD3.out.2).2.1 (HC.out w3 HD3.out.2).2.2.1; clear hd3 hk3)
    | (go_at_call 39; refine (HM.out d' _ HD2.out.1).mono ?_; rintro e w3 ⟨rfl, hd3, hk3⟩; have HD3 : Hid (Duo w K1 w3 p q d' d' ∧ Keep K1 W1 w3) := ⟨hd3, HD2.out.2.trans hk3⟩; have c12' := And.intro (HC.out w3 HD3.out.2).2.1 (HC.out w3 HD3.out.2).2.2.1; clear hd3 hk3)
    | (go_at_call 39; refine (HM.out d _ HD0.out).mono ?_; rintro e w2 ⟨rfl, hd2, hk2⟩; have HE2 : Hid (Duo w K1 w2 p q d d' ∧ Keep K1 W1 w2) := ⟨hd2, HKD.out.trans hk2⟩; have c12' := And.intro (HC.out w2 HE2.out.2).2.1 (HC.out w2 HE2.out.2).2.2.1; clear hd2 hk2))
  all_goals go_wp2
  all_goals go_ret
  all_goals exact ⟨rfl, HD3.out.1.narrow HKK.out, HK0.out.trans (HD3.out.2.mono HKK.out)⟩
end Go.Proofs.Ytbmebmkpjbgdoaa
