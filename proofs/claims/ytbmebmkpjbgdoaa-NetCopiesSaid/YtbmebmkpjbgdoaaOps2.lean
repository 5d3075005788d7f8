/- Double, Deliver, Send. -/
import Derived.Test.YtbmebmkpjbgdoaaOps1
import Derived.StillTailTactics
namespace Go.Proofs.Ytbmebmkpjbgdoaa
open Go.RowKit
theorem isFull_at {w : World} {O I : Nat → Prop} {p : Nat} {d : Nt} {sv : Value} {vs : List MV} (h : NetP w O I p d sv vs) (ho : d.ok) :
    Calls Try.prog 46 #[.pointer (some ⟨p, 0, none⟩)] w fun e w' => e = .returned (.bool (decide (64 ≤ d.bag.length))) ∧ w = w' := isFull_gen _ _ w (h.lenC ho)
theorem NetP.at {w : World} {O I : Nat → Prop} {p : Nat} {d : Nt} {sv : Value} {vs : List MV} (h : NetP w O I p d sv vs) {k : Nat} {m : Msg} (hk : d.bag[k]? = some m) : ∃ u, vs[k]? = some (m, u) ∧ BytesIn I w u m.b := by
  have hkl := (List.getElem?_eq_some_iff.1 hk).1
  have e := List.getElem?_eq_getElem (l := vs) (i := k) (by rw [h.len]; exact hkl)
  have e2 : (vs.map (·.1))[k]? = some m := by rw [h.bag]; exact hk
  rw [List.getElem?_map, e] at e2
  simp only [Option.map_some, Option.some.injEq] at e2
  have e3 : vs[k]? = some (m, (vs[k]'(by rw [h.len]; exact hkl)).2) := by rw [e, ← e2]
  exact ⟨_, e3, h.byt _ (List.mem_of_getElem? e3)⟩
set_option maxRecDepth 100000 in
set_option maxHeartbeats 1000000 in
theorem double_at {w : World} {O I : Nat → Prop} {p : Nat} {d : Nt} (h : NetAt w O I p d) (i : Int) :
    Calls Try.prog 25 #[.pointer (some ⟨p, 0, none⟩), .int .i64 i] w (Does w O I p (d.double i).1 (d.double i).2) := by
  have hA := h
  obtain ⟨ho, sv, vs, h⟩ := h
  have HM := holds_at h ho i
  have HFULL := isFull_at h ho
  have HST : Hid (∀ r, Does w O I p r d (.returned (.int .i64 r)) w) := fun r => Does.still hA r (Below.refl _ _)
  cases hi : d.has i
  · have hres : d.double i = (4, d) := by unfold Nt.double; rw [if_pos hi]
    rw [hres]
    rw [hi] at HM
    have HM := Lib.hid HM
    clear h ho hi hA hres HFULL
    go_enter Try.func25, Try.ntmps25
    go_wp2_with (go_at_call 29; refine HM.out.mono ?_; rintro e w1 ⟨rfl, rfl⟩)
    go_ret
    exact HST.out 4
  · rw [hi] at HM
    by_cases hf : 64 ≤ d.bag.length
    · have hres : d.double i = (3, d) := by unfold Nt.double; rw [if_neg (by simp [hi]), if_pos hf]
      rw [hres]
      rw [decide_eq_true hf] at HFULL
      have HM := Lib.hid HM
      have HFULL := Lib.hid HFULL
      clear h ho hi hA hres hf
      go_enter Try.func25, Try.ntmps25
      go_wp2_with (first | (go_at_call 29; refine HM.out.mono ?_; rintro e w1 ⟨rfl, rfl⟩) | (go_at_call 46; refine HFULL.out.mono ?_; rintro e w1 ⟨rfl, rfl⟩))
      go_ret
      exact HST.out 3
    · have hres : d.double i = (0, { d with bag := d.bag ++ [d.msg i] }) := by unfold Nt.double; rw [if_neg (by simp [hi]), if_neg hf]
      have hok : ({ d with bag := d.bag ++ [d.msg i] } : Nt).ok := by have := ho.double i; rw [hres] at this; exact this
      rw [hres]
      rw [decide_eq_false hf] at HFULL
      have hmg := Nt.msg_get hi
      obtain ⟨h1, h2⟩ := (has_iff d i).1 hi
      obtain ⟨k, rfl⟩ := Int.eq_ofNat_of_zero_le h1
      simp only [Int.toNat_natCast] at hmg
      generalize d.msg (k : Int) = m at hmg hok ⊢
      obtain ⟨u, hv, hu⟩ := h.at hmg
      have hk : k < vs.length := by rw [h.len]; omega
      have HP : Hid (Calls Try.prog 47 #[.pointer (some ⟨p, 0, none⟩), .agg #[.int .i64 m.fr, .int .i64 m.to, u]] w.drew fun e w' => e = .returned (.tuple #[]) ∧ ∃ O' sv', NetP w' O' I p { d with bag := d.bag ++ [m] } sv' (vs ++ [(m, u)]) ∧ Step w O I w' O' I) := by
        refine (put_any (h.chg (Chg.refl (fun _ => False) w).drew fun _ h => h.elim) m u (hu.chg (Chg.refl (fun _ => False) w).drew fun _ h => h.elim) (by rw [h.len]; omega)).mono ?_
        rintro e w' ⟨rfl, O', sv', hx, hs⟩
        exact ⟨rfl, O', sv', hx, hs.behind (Chg.refl (fun _ => False) w).drew⟩
      have HF : Hid (∀ w', (∃ O' sv', NetP w' O' I p { d with bag := d.bag ++ [m] } sv' (vs ++ [(m, u)]) ∧ Step w O I w' O' I) → Does w O I p 0 { d with bag := d.bag ++ [m] } (.returned (.int .i64 0)) w') := fun w' ⟨O', sv', hx, hs⟩ => ⟨rfl, O', I, ⟨hok, sv', _, hx⟩, hs⟩
      have HM := Lib.hid HM
      have HFULL := Lib.hid HFULL
      rcases h.row.2 with ⟨rfl, h0⟩ | ⟨g, cap, cur, rfl, hbg, hg, hnc, hcm, hcs, htake⟩
      · omega
      · have c0 := h.c0
        have e0 : w.cell? ⟨g, k * 3, none⟩ = some (.int .i64 m.fr) := h.row.cell hv 0 (by omega)
        have e1 : w.cell? ⟨g, k * 3 + 1, none⟩ = some (.int .i64 m.to) := h.row.cell hv 1 (by omega)
        have e2 : w.cell? ⟨g, k * 3 + 2, none⟩ = some u := h.row.cell hv 2 (by omega)
        obtain ⟨L, hL⟩ : ∃ L, vs.length = L := ⟨_, rfl⟩
        rw [hL] at c0 hk
        clear h ho hi hA hres hf hbg hg hnc hcm hcs htake hL hu hv hmg hok h1 h2
        go_enter Try.func25, Try.ntmps25
        go_wp2_with (first | (go_at_call 29; refine HM.out.mono ?_; rintro e w1 ⟨rfl, rfl⟩) | (go_at_call 46; refine HFULL.out.mono ?_; rintro e w1 ⟨rfl, rfl⟩))
        go_still_tail 11, (by kernel_rfl)
        change wpList _ _ _ _ _ w.drew
        go_wp2_with (go_at_call 47; refine HP.out.mono ?_; rintro e w2 ⟨rfl, hx⟩; have HX := Lib.hid (HF.out w2 hx); clear hx)
        go_ret
        exact HX.out
/-- what Deliver leaves -/
def Delivers (w : World) (O I : Nat → Prop) (p : Nat) (d : Nt) (i : Int) (e : Ending) (w' : World) : Prop :=
  ∃ u, e = .returned (.tuple #[.agg #[.int .i64 (d.deliver i).1.fr, .int .i64 (d.deliver i).1.to, u], .int .i64 (d.deliver i).2.1]) ∧ OwnBytes w.heap.size w' u (d.deliver i).1.b ∧ ∃ O' I', NetAt w' O' I' p (d.deliver i).2.2 ∧ Step w O I w' O' I' ∧ ∀ k, u.ownBlock = some k → ¬ O' k ∧ ¬ I' k
end Go.Proofs.Ytbmebmkpjbgdoaa
