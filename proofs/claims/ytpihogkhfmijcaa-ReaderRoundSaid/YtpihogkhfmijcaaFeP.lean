/- To go on; tick; to begin. -/
import Derived.Test.YtpihogkhfmijcaaFeK
namespace Go.Proofs.Ytpihogkhfmijcaa
open Go.RowKit Go.Maps Go.Shelf
set_option linter.unusedSimpArgs false
/-- the fetch has a place that it asks -/
structure FeM.In (m : FeM) : Prop where
  lo : 0 ≤ m.at'
  hi : m.at' < (m.set.length : Int)
  len : m.set.length ≤ 1000
/-- what asking answers -/
def FeM.askM (m : FeM) (now : Int) : FeM × List RqM := ({ m with since := now }, [⟨m.set.getD m.at'.toNat default, m.id, m.n, m.tag⟩])
def FeM.next (m : FeM) : FeM := { m with at' := (m.at' + 1) % (m.set.length : Int) }
def FeM.passM (m : FeM) (now : Int) : FeM × List RqM := m.next.askM now
theorem FeM.In.get {m : FeM} (h : m.In) : ∃ p, m.set[m.at'.toNat]? = some p ∧ m.set.getD m.at'.toNat default = p := by
  have h1 := h.lo
  have h2 := h.hi
  refine ⟨m.set[m.at'.toNat]'(by omega), List.getElem?_eq_getElem _, ?_⟩
  rw [List.getD_eq_getElem?_getD, List.getElem?_eq_getElem (by omega)]
  rfl
theorem FeM.In.next {m : FeM} (h : m.In) : m.next.In := by
  have h1 := h.lo
  have h2 := h.hi
  exact ⟨Int.emod_nonneg _ (by omega), Int.emod_lt_of_pos _ (by omega), h.len⟩
theorem FeM.In.ask {m : FeM} (h : m.In) (now : Int) : (m.askM now).1.In := ⟨h.lo, h.hi, h.len⟩
theorem askM_any {g : Nat} {x : FeV} {now : Int} {w : World} (h : Wo w g x now none 0 []) (hi : x.m.In) :
    Calls Try.prog 33 #[pg g] w fun e w' => WoPost g now x (x.m.askM now).1 (x.m.askM now).2 w e w' := by
  obtain ⟨p, hp, hd⟩ := hi.get
  have := ask_any h hi.lo hp
  unfold FeM.askM
  rw [hd]
  exact this
set_option maxRecDepth 100000 in
set_option maxHeartbeats 1000000 in
theorem pass_any {g : Nat} {x : FeV} {now : Int} {w : World} (h : Wo w g x now none 0 []) (hi : x.m.In) :
    Calls Try.prog 38 #[pg g] w fun e w' => WoPost g now x (x.m.passM now).1 (x.m.passM now).2 w e w' := by
  have h1 := hi.lo
  have h2 := hi.hi
  have h3 := hi.len
  have hb : i64ok ((x.at' + 1) % (x.set.length : Int)) := by
    have a1 := hi.next.lo
    have a2 := hi.next.hi
    unfold i64ok
    show _ ≤ x.m.next.at' ∧ x.m.next.at' ≤ _
    have : (x.m.next.set.length : Int) = x.m.set.length := rfl
    omega
  have HS := Lib.hid (fun Z (hZ : Below w.heap.size (w.setCell ⟨g, 3, none⟩ (.int .i64 ((x.at' + 1) % (x.set.length : Int)))) Z) => askM_any ((h.set3 _ hb).below (hZ.mono (by rw [setCell_size]; exact Nat.le_refl _))) hi.next)
  have HC := Lib.hid (fun Z (hZ : Below w.heap.size (w.setCell ⟨g, 3, none⟩ (.int .i64 ((x.at' + 1) % (x.set.length : Int)))) Z) => (Ch1.set w g 3 (.int .i64 ((x.at' + 1) % (x.set.length : Int)))).trans (Ch1.of (hZ.mono (by rw [setCell_size]; exact Nat.le_refl _))))
  have HB := Lib.hid (fun a c W => behind_any a c x.set.length x.at' W h1 h2 h3)
  obtain ⟨-, -, c2, c3, -⟩ := h.cells
  have f0 := h.fz
  obtain ⟨N, hN⟩ : ∃ N, x.set.length = N := ⟨_, rfl⟩
  rw [hN] at c2
  have d0 : (0 : Int) < (N : Int) := by
    have h2' : x.at' < (x.set.length : Int) := h2
    have h1' : 0 ≤ x.at' := h1
    omega
  rw [hN] at HB HC HS hb
  have HNN := Lib.hid hN
  clear h hi h1 h2 h3 hN hb
  go_enter Try.func38, Try.ntmps38
  go_wp2_with fail
  go_region_law (go_simp; (with_reducible refine Calls.mono (HB.out _ _ _) ?_); rintro e w1 ⟨rfl, rfl⟩)
  all_goals go_wp2_with fail
  all_goals refine Calls.mono (HS.out _ (by first | exact Below.refl _ _ | exact Below.drew (Below.refl _ _))) ?_
  all_goals rintro e w2 ⟨⟨v, rfl⟩, hq⟩
  all_goals have HQ := Lib.hid (WoPost.trans (x := x) (e := .returned (.tuple #[])) ⟨⟨_, rfl⟩, hq⟩ (HC.out _ (by first | exact Below.refl _ _ | exact Below.drew (Below.refl _ _))) (fun _ h => .inl h))
  all_goals clear hq
  all_goals go_wp2
  all_goals go_end0
  all_goals (have hz := HQ.out; rw [← HNN.out] at hz; exact hz)
def FeM.tickM (m : FeM) (now : Int) : FeM × List RqM := if m.since + 3 ≤ now then m.passM now else (m, [])
set_option maxRecDepth 100000 in
set_option maxHeartbeats 4000000 in
theorem tick_any {g : Nat} {x : FeV} {now : Int} {w : World} (h : Wo w g x now none 0 []) (hi : x.m.In) :
    Calls Try.prog 23 #[pg g] w fun e w' => WoPost g now x (x.m.tickM now).1 (x.m.tickM now).2 w e w' := by
  obtain ⟨-, -, -, -, c4, -, -, -, c8, -⟩ := h.cells
  have hs := h.ok.nums.2.2.1
  have hn := h.nw
  unfold u64ok at hs hn
  have HP := Lib.hid (fun Z (hZ : Below w.heap.size w Z) => pass_any (h.below hZ) hi)
  have HO := Lib.hid (fun Z (hZ : Below w.heap.size w Z) => h.same ⟨_, rfl⟩ hZ (e := .returned (.tuple #[])))
  have HU := Lib.hid h
  by_cases h1 : x.since + 3 ≤ now
  · have e0 : ¬ now < x.since := by omega
    have e1 : (if now < x.since then now else x.since) = x.since := if_neg e0
    have e2 : IntKind.u64.wrap (now - x.since) = now - x.since := by rw [wrapu]; omega
    have e3 : (3 : Int) ≤ now - x.since := by omega
    have HT := Lib.hid (show x.m.tickM now = x.m.passM now from if_pos h1)
    clear h hi hs hn h1
    go_enter Try.func23, Try.ntmps23
    go_wp2_with fail
    go_region_law (fail)
    all_goals go_wp2_with (go_at_call 38; (refine Calls.mono (HP.out _ (by first | exact Below.refl _ _ | exact Below.drew (Below.refl _ _))) ?_); rintro e w2 ⟨⟨v, rfl⟩, hq⟩; have HQ := Lib.hid (WoPost.trans (x := x) (e := .returned (.tuple #[])) ⟨⟨_, rfl⟩, hq⟩ (Ch1.of (show Below w.heap.size w _ by first | exact Below.refl _ _ | exact Below.drew (Below.refl _ _))) (fun _ h => .inl h)); clear hq)
    all_goals go_end0
    all_goals rw [HT.out]
    all_goals exact HQ.out
  · by_cases h2 : now < x.since
    · have e1 : (if now < x.since then now else x.since) = now := if_pos h2
      have e2 : IntKind.u64.wrap (now - now) = 0 := by rw [wrapu]; omega
      have e3 : IntKind.u64.wrap 0 = 0 := by rw [wrapu]; omega
      have HT := Lib.hid (show x.m.tickM now = (x.m, []) from if_neg h1)
      clear h hi hs hn h1
      go_enter Try.func23, Try.ntmps23
      go_wp2_with fail
      go_region_law (fail)
      all_goals go_wp2
      all_goals go_end0
      all_goals rw [HT.out]
      all_goals exact HU.out.same ⟨_, rfl⟩ (by first | exact Below.refl _ _ | exact Below.drew (Below.refl _ _))
    · have e1 : (if now < x.since then now else x.since) = x.since := if_neg h2
      have e2 : IntKind.u64.wrap (now - x.since) = now - x.since := by rw [wrapu]; omega
      have e3 : ¬ (3 : Int) ≤ now - x.since := by omega
      have HT := Lib.hid (show x.m.tickM now = (x.m, []) from if_neg h1)
      clear h hi hs hn h1
      go_enter Try.func23, Try.ntmps23
      go_wp2_with fail
      go_region_law (fail)
      all_goals go_wp2
      all_goals go_end0
      all_goals rw [HT.out]
      all_goals exact HU.out.same ⟨_, rfl⟩ (by first | exact Below.refl _ _ | exact Below.drew (Below.refl _ _))
def FeM.beginM (m : FeM) (now : Int) (S : List PL) : FeM × List RqM := FeM.askM { m with set := S, at' := 0 } now
set_option maxRecDepth 100000 in
theorem begin_any {g : Nat} {x : FeV} {now : Int} {w : World} (h : Wo w g x now none 0 []) {sa : Option Addr} {sc : Nat} {S : List PL} (hS : PsAt w (.slice sa S.length sc) S) (hg : ∀ b, ab sa = some b → b ≠ g) (h1 : 0 < S.length) (h2 : S.length ≤ 1000) :
    Calls Try.prog 20 #[pg g, .slice sa S.length sc] w fun e w' => WoPost g now { x with sa := sa, sc := sc, set := S } (x.m.beginM now S).1 (x.m.beginM now S).2 w e w' := by
  obtain ⟨-, -, c2, c3, -⟩ := h.cells
  have f0 := h.fz
  have hw2 := (h.set2 hS hg)
  have hw3 := hw2.set3 0 (by unfold i64ok; omega)
  have HK := Lib.hid (askM_any hw3 ⟨Int.le_refl _, by show (0 : Int) < (S.length : Int); omega, h2⟩)
  have HC := Lib.hid ((Ch1.set w g 2 (.slice sa S.length sc)).trans (Ch1.set _ g 3 (.int .i64 0)))
  obtain ⟨N, hN⟩ : ∃ N, S.length = N := ⟨_, rfl⟩
  have HNN := Lib.hid hN
  rw [hN] at HK HC ⊢
  clear h hw2 hw3 hS hg h1 h2 hN
  go_enter Try.func20, Try.ntmps20
  go_wp2_with fail
  refine HK.out.mono ?_
  rintro e w2 ⟨⟨v, rfl⟩, hq⟩
  have HQ := Lib.hid (WoPost.trans (x := { x with sa := sa, sc := sc, set := S }) (e := .returned (.tuple #[])) ⟨⟨_, rfl⟩, hq⟩ HC.out (fun _ h => .inl h))
  clear hq
  go_wp2
  go_end0
  exact HQ.out
end Go.Proofs.Ytpihogkhfmijcaa
