/- act: act_crash. -/
import Derived.Test.YticbfnflillokaaRowH
import Derived.Test.YticbfnflillokaaRowF
namespace Go.Proofs.Yticbfnflillokaa
open Go.RowKit
set_option maxRecDepth 100000 in
set_option maxHeartbeats 8000000 in
theorem act_crash {w : Fr} {wi : World} {K : Bks} {p q N M : Nat} {d : Dk} (h : Duo w K wi p q N M d d) (hN : N ≤ 400000) (hM : M ≤ 400000) (nm to l : Bs) (x y : Int) (ua : Option Addr) (L uc : Nat) (hu : BytesIn K wi (.slice ua L uc) l) (hL : l.length = L) (hl : L ≤ 100000) (hnm : nm.length ≤ maxLen) (hto : to.length ≤ maxLen) :
    Calls Try.prog 16 #[.pointer (some ⟨p, 0, none⟩), .pointer (some ⟨q, 0, none⟩), .agg #[.int .i64 6, .string ⟨nm.toArray⟩, .string ⟨to.toArray⟩, .slice ua L uc, .int .i64 x, .int .i64 y]] wi (ActDoes w K wi p q N M (d.act ⟨6, nm, to, l, x, y⟩)) := by
  have hused := And.intro hN (And.intro hM (And.intro hl (And.intro hnm hto)))
  clear hused
  have HREADY := Lib.hid (Ready.of h 6 nm to l ua L uc x y hu hL)
  have HMADE : Hid (OwnBytes (wi.heap.size + 1) ((wi.alloc (.cells #[.int .i64 6, .string ⟨nm.toArray⟩, .string ⟨to.toArray⟩, .slice ua L uc, .int .i64 x, .int .i64 y] 33)).alloc (.cells #[] 5)) (.slice (some ⟨wi.heap.size + 1, 0, none⟩) 0 0) []) := by
    have := OwnBytes.made (wi.alloc (.cells #[.int .i64 6, .string ⟨nm.toArray⟩, .string ⟨to.toArray⟩, .slice ua L uc, .int .i64 x, .int .i64 y] 33)) (wi.heap.size + 1) (by rw [World.size_alloc]; omega)
    rw [World.size_alloc] at this
    exact this
  have HU1 : Hid (∀ z z', BytesAt ((wi.alloc z).alloc z') (.slice ua L uc) l) := fun z z' => (hu.at.below (Go.Joins.below_alloc1 wi z) (Nat.le_refl _)).below (Go.Joins.below_alloc1 _ z') (Nat.le_refl _)
  have HS1 : Hid (∀ z z', wi.heap.size + 1 ≤ ((wi.alloc z).alloc z').heap.size) := fun z z' => by rw [World.size_alloc, World.size_alloc]; omega
  have e3 : ∀ z, ((wi.alloc (.cells #[.int .i64 6, .string ⟨nm.toArray⟩, .string ⟨to.toArray⟩, .slice ua L uc, .int .i64 x, .int .i64 y] 33)).alloc z).cell? ⟨wi.heap.size, 3, none⟩ = some (.slice ua L uc) := fun z => by
    have := XBox.cells (wi := wi) (o := 6) (n := nm) (t := to) (u := .slice ua L uc) (x := x) (y := y) (K := fun _ => True) (keep_below (Go.Joins.below_alloc1 _ z)) trivial
    exact this.2.2.2.1
  have HL := Lib.hid hL
  obtain ⟨r, d', hrd0⟩ : ∃ r d', d.crash x y = (r, d') := ⟨_, _, rfl⟩
  have HND : Hid (∀ (K3 : Bks) (e : Dk) M' W, Duo w K3 W p q N M' d e → Calls Try.prog 23 #[.pointer (some ⟨p, 0, none⟩), .int .i64 x, .int .i64 y] W fun en w' => en = .returned (.int .i64 r) ∧ Duo w K3 w' p q (N + 1) M' d' e ∧ Keep K3 W w') := fun K3 e M' W hd => by
    have := hd.net (A := fun en => en = .returned (.int .i64 (d.crash x y).1)) (d' := (d.crash x y).2) (N' := N + 1) fun J hJ => hJ.does fun _ _ hn => crash_any hn hN x y
    rwa [hrd0] at this
  have HMD : Hid (∀ (K3 : Bks) (d0 : Dk) N' W, Duo w K3 W p q N' M d0 d → Calls Try.prog 50 #[.pointer (some ⟨q, 0, none⟩), .int .i64 x, .int .i64 y] W fun en w' => en = .returned (.int .i64 r) ∧ Duo w K3 w' p q N' (M + 1) d0 d' ∧ Keep K3 W w') := fun K3 d0 N' W hd => by
    have := hd.ref (A := fun en => en = .returned (.int .i64 (d.crash x y).1)) (e' := (d.crash x y).2) (M' := M + 1) fun R hR => rcrash_any hR hM x y
    rwa [hrd0] at this
  have hact : d.act ⟨6, nm, to, l, x, y⟩ = d' := by show (d.crash x y).2 = d'; rw [hrd0]
  rw [hact]
  have kr : (r == r) = true := by simp
  clear hact hrd0 hnm hto
  clear h hu hL
  go_enter Try.func16, Try.ntmps16
  go_wp2_with (at_builtin; refine wpList_append_place rfl _ _ rfl (wi.heap.size + 1) _ (.slice ua L uc) [] l rfl (by simp [Act.eval]) HMADE.out (HU1.out _ _) (by rw [HL.out]; show 0 + L ≤ 175921860444160; omega) (HS1.out _ _) ?_; intro v2 w2 ho2 hg2 _; obtain ⟨a2, k2, rfl, x0, x1, K3, W3, hW3, hrd⟩ := HREADY.out v2 w2 ho2 hg2; have HRD := Lib.hid hrd; obtain ⟨q0, q1, q2, q3, q4, q5⟩ := x0; have y0 := fun z => (x1 z).1; have y1 := fun z => (x1 z).2.1; have y2 := fun z => (x1 z).2.2.1; have y4 := fun z => (x1 z).2.2.2.2.1; have y5 := fun z => (x1 z).2.2.2.2.2; clear ho2 hg2 hrd x1)
  rw [← hW3]
  clear hW3 q0 q1 q2 q3 q4 q5 y0 y1 y2 y4 y5 e3
  obtain ⟨G, hG⟩ : ∃ G, w2.heap.size = G := ⟨_, rfl⟩
  rw [hG] at HRD ⊢
  clear hG
  have HS : Hid (∀ W, Keep K3 W3 W → W.cell? ⟨wi.heap.size, 4, none⟩ = some (.int .i64 x) ∧ W.cell? ⟨wi.heap.size, 5, none⟩ = some (.int .i64 y)) := fun W hk => ⟨(HRD.out.xc W hk).2.2.2.2.1, (HRD.out.xc W hk).2.2.2.2.2⟩
  have HD0 : Hid (Duo w K3 W3.drew p q N M d d) := HRD.out.duo.still (Below.refl _ _).drew
  have HKD : Hid (Keep K3 W3 W3.drew) := keep_below (Below.refl _ _).drew
  have s0 := HS.out W3 (Keep.refl _ _)
  go_region_held (fun W => W.cell? ⟨wi.heap.size, 4, none⟩ = some (.int .i64 x) ∧ W.cell? ⟨wi.heap.size, 5, none⟩ = some (.int .i64 y)) ((first | exact s0 | exact s0')) (first
    | (go_at_call 23; refine (HND.out K3 d M _ HD0.out).mono ?_; rintro e w5 ⟨rfl, hd2, hk2⟩; have HD2 : Hid (Duo w K3 w5 p q (N + 1) M d' d ∧ Keep K3 W3 w5) := ⟨hd2, HKD.out.trans hk2⟩; have s0' := HS.out w5 HD2.out.2; clear hd2 hk2)
    | (go_at_call 23; refine (HND.out K3 d' (M + 1) _ HE2.out.1).mono ?_; rintro e w4 ⟨rfl, hd3, hk3⟩; have HD3 : Hid (Duo w K3 w4 p q (N + 1) (M + 1) d' d' ∧ Keep K3 W3 w4) := ⟨hd3, HE2.out.2.trans hk3⟩; have s0' := HS.out w4 HD3.out.2; clear hd3 hk3)
    | (go_at_call 50; refine (HMD.out K3 d' (N + 1) _ HD2.out.1).mono ?_; rintro e w4 ⟨rfl, hd3, hk3⟩; have HD3 : Hid (Duo w K3 w4 p q (N + 1) (M + 1) d' d' ∧ Keep K3 W3 w4) := ⟨hd3, HD2.out.2.trans hk3⟩; have s0' := HS.out w4 HD3.out.2; clear hd3 hk3)
    | (go_at_call 50; refine (HMD.out K3 d N _ HD0.out).mono ?_; rintro e w5 ⟨rfl, hd2, hk2⟩; have HE2 : Hid (Duo w K3 w5 p q N (M + 1) d d' ∧ Keep K3 W3 w5) := ⟨hd2, HKD.out.trans hk2⟩; have s0' := HS.out w5 HE2.out.2; clear hd2 hk2))
  all_goals go_wp2
  all_goals go_ret
  all_goals (have hx := HRD.out.done HD3.out.1 (Nat.le_refl _) (Nat.le_refl _) HD3.out.2; simpa [kr] using hx)
end Go.Proofs.Yticbfnflillokaa
