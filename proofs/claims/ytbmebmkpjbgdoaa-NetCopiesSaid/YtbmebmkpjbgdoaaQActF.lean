/- act: Find, and whatever is no call. -/
import Derived.Test.YtbmebmkpjbgdoaaQAct
namespace Go.Proofs.Ytbmebmkpjbgdoaa
open Go.RowKit
set_option maxRecDepth 100000 in
set_option maxHeartbeats 2000000 in
theorem act_find {w : Fr} {wi : World} {K : Bks} {p q : Nat} {d : Nt} (h : Duo w K wi p q d d) (a b i : Int) (u : Value) :
    Calls Try.prog 15 #[.pointer (some ⟨p, 0, none⟩), .pointer (some ⟨q, 0, none⟩), .agg #[.int .i64 7, .int .i64 a, .int .i64 b, .int .i64 i, u]] wi (ActDoes w K wi p q d) := by
  obtain ⟨W1, hW1⟩ : ∃ W1, W1 = Box wi 7 a b i u := ⟨_, rfl⟩
  have hD := h.box 7 a b i u
  have HC : Hid (∀ W, Keep (fun k => K k ∨ k = wi.heap.size) W1 W → W.cell? ⟨wi.heap.size, 0, none⟩ = some (.int .i64 7) ∧ W.cell? ⟨wi.heap.size, 1, none⟩ = some (.int .i64 a) ∧ W.cell? ⟨wi.heap.size, 2, none⟩ = some (.int .i64 b) ∧ W.cell? ⟨wi.heap.size, 3, none⟩ = some (.int .i64 i) ∧ W.cell? ⟨wi.heap.size, 4, none⟩ = some u) := fun W hk => by rw [hW1] at hk; exact Box.cells hk
  have HK0 : Hid (Keep K wi W1) := by rw [hW1]; exact Keep.of_below (Go.Joins.below_alloc1 wi _)
  rw [← hW1] at hD
  unfold Box at hW1
  generalize hK1 : (fun k => K k ∨ k = wi.heap.size) = K1 at *
  have HKK : Hid (∀ k, K k → K1 k) := fun k hk => by rw [← hK1]; exact .inl hk
  clear hK1 h
  have HN : Hid (Calls Try.prog 19 #[.pointer (some ⟨p, 0, none⟩), .int .i64 a, .int .i64 b] W1 fun en w' => en = .returned (.tuple #[.int .i64 (d.find a b).1, .bool (d.find a b).2]) ∧ Duo w K1 w' p q d d ∧ Keep K1 W1 w') := hD.net fun J hJ => hJ.find a b
  have HM : Hid (∀ W, Duo w K1 W p q d d → Calls Try.prog 40 #[.pointer (some ⟨q, 0, none⟩), .int .i64 a, .int .i64 b] W fun en w' => en = .returned (.tuple #[.int .i64 (d.find a b).1, .bool (d.find a b).2]) ∧ Duo w K1 w' p q d d ∧ Keep K1 W w') := fun W hd => hd.ref fun R hR => (rfind_any hR a b).mono fun en w' hx => ⟨hx.1, RDoes.still hR hx.2⟩
  generalize (d.find a b).1 = r at HN HM
  generalize (d.find a b).2 = s at HN HM
  clear hD
  have kr : (r == r) = true := by simp
  go_enter Try.func15, Try.ntmps15
  go_wp2_with fail
  rw [← hW1]
  clear hW1
  obtain ⟨c0, c1, c2, c3, c4⟩ := HC.out W1 (Keep.refl _ _)
  refine HN.out.mono ?_
  rintro e w2 ⟨rfl, hd2, hk2⟩
  have HD2 : Hid (Duo w K1 w2 p q d d ∧ Keep K1 W1 w2) := ⟨hd2, hk2⟩
  clear hd2 hk2 c0 c1 c2 c3 c4
  obtain ⟨c0, c1, c2, c3, c4⟩ := HC.out w2 HD2.out.2
  go_wp2_with fail
  refine (HM.out _ HD2.out.1).mono ?_
  rintro e w3 ⟨rfl, hd3, hk3⟩
  have HD3 : Hid (Duo w K1 w3 p q d d ∧ Keep K1 W1 w3) := ⟨hd3, HD2.out.2.trans hk3⟩
  clear hd3 hk3
  go_wp2
  all_goals go_ret
  all_goals exact ⟨by simp, HD3.out.1.narrow HKK.out, HK0.out.trans (HD3.out.2.mono HKK.out)⟩
set_option maxRecDepth 100000 in
set_option maxHeartbeats 2000000 in
theorem act_none {w : Fr} {wi : World} {K : Bks} {p q : Nat} {d : Nt} (h : Duo w K wi p q d d) (x a b i : Int) (u : Value) (h0 : x ≠ 0) (h1 : x ≠ 1) (h2 : x ≠ 2) (h3 : x ≠ 3) (h4 : x ≠ 4) (h5 : x ≠ 5) (h7 : x ≠ 7) (h8 : x ≠ 8) :
    Calls Try.prog 15 #[.pointer (some ⟨p, 0, none⟩), .pointer (some ⟨q, 0, none⟩), .agg #[.int .i64 x, .int .i64 a, .int .i64 b, .int .i64 i, u]] wi (ActDoes w K wi p q d) := by
  have HD : Hid (∀ o, Duo w K (wi.alloc o) p q d d) := fun o => h.still (Go.Joins.below_alloc1 wi o)
  have HK0 : Hid (∀ o, Keep K wi (wi.alloc o)) := fun o => Keep.of_below (Go.Joins.below_alloc1 wi o)
  have e0 : (x == 0) = false := by simp [h0]
  have e1 : (x == 1) = false := by simp [h1]
  have e2 : (x == 2) = false := by simp [h2]
  have e3 : (x == 3) = false := by simp [h3]
  have e4 : (x == 4) = false := by simp [h4]
  have e5 : (x == 5) = false := by simp [h5]
  have e7 : (x == 7) = false := by simp [h7]
  have e8 : (x == 8) = false := by simp [h8]
  clear h h0 h1 h2 h3 h4 h5 h7 h8
  go_enter Try.func15, Try.ntmps15
  go_wp2
  go_ret
  exact ⟨rfl, HD.out _, HK0.out _⟩
end Go.Proofs.Ytbmebmkpjbgdoaa
