/- Send. -/
import Derived.Test.YtbmebmkpjbgdoaaOps3
namespace Go.Proofs.Ytbmebmkpjbgdoaa
open Go.RowKit
theorem NetP.wide {w : World} {O I J : Nat → Prop} {p : Nat} {d : Nt} {sv : Value} {vs : List MV} (h : NetP w O I p d sv vs) (hi : ∀ k, I k → J k) (hO : ∀ k, O k → ¬ J k) (hl : ∀ k, J k → k < w.heap.size) : NetP w O J p d sv vs :=
  { h with byt := fun v hv => (h.byt v hv).wide fun k _ hk => hi k hk, di := hO, lt := fun k hk => hk.elim (fun hk => h.lt k (.inl hk)) (hl k) }
set_option maxRecDepth 100000 in
set_option maxHeartbeats 1000000 in
theorem send_at {w : World} {O I : Nat → Prop} {p : Nat} {d : Nt} (h : NetAt w O I p d) (a b : Int) (l : Bs) (u : Value) (hu : BytesAt w u l) :
    Calls Try.prog 24 #[.pointer (some ⟨p, 0, none⟩), .int .i64 a, .int .i64 b, u] w (Does w O I p (d.send a b l).1 (d.send a b l).2) := by
  have hA := h
  obtain ⟨ho, sv, vs, h⟩ := h
  have HL := h.links ho a b
  have HOP := open_at h ho a b
  have HFULL := isFull_at h ho
  have HST : Hid (∀ r, Does w O I p r d (.returned (.int .i64 r)) w) := fun r => Does.still hA r (Below.refl _ _)
  obtain ⟨ua, uc, rfl, _⟩ := hu.form
  cases hl : d.links a b
  · have hres : d.send a b l = (1, d) := by unfold Nt.send; rw [if_pos hl]
    rw [hres]
    rw [hl] at HL
    have HL := Lib.hid HL
    clear h ho hA hl hres HOP HFULL hu
    go_enter Try.func24, Try.ntmps24
    go_wp2_with (go_at_call 44; refine HL.out.mono ?_; rintro e w1 ⟨rfl, rfl⟩)
    go_ret
    exact HST.out 1
  · rw [hl] at HL
    have HL := Lib.hid HL
    by_cases hlen : 16384 < l.length
    · have hres : d.send a b l = (7, d) := by unfold Nt.send; rw [if_neg (by simp [hl]), if_pos hlen]
      rw [hres]
      generalize l.length = L at hlen
      clear h ho hA hl hres HOP HFULL hu
      go_enter Try.func24, Try.ntmps24
      go_wp2_with (go_at_call 44; refine HL.out.mono ?_; rintro e w1 ⟨rfl, rfl⟩)
      go_ret
      exact HST.out 7
    · cases hop : d.isOpen a b
      · have hres : d.send a b l = (6, d) := by unfold Nt.send; rw [if_neg (by simp [hl]), if_neg hlen, if_pos hop]
        rw [hres]
        rw [hop] at HOP
        have HOP := Lib.hid HOP
        generalize l.length = L at hlen
        have hlen : L ≤ 16384 := by omega
        clear h ho hA hl hres hop HFULL hu
        go_enter Try.func24, Try.ntmps24
        go_wp2_with (first | (go_at_call 44; refine HL.out.mono ?_; rintro e w1 ⟨rfl, rfl⟩) | (go_at_call 22; refine HOP.out.mono ?_; rintro e w1 ⟨rfl, rfl⟩))
        go_ret
        exact HST.out 6
      · rw [hop] at HOP
        have HOP := Lib.hid HOP
        by_cases hf : 64 ≤ d.bag.length
        · have hres : d.send a b l = (3, d) := by unfold Nt.send; rw [if_neg (by simp [hl]), if_neg hlen, if_neg (by simp [hop]), if_pos hf]
          rw [hres]
          rw [decide_eq_true hf] at HFULL
          have HFULL := Lib.hid HFULL
          generalize l.length = L at hlen
          have hlen : L ≤ 16384 := by omega
          clear h ho hA hl hres hop hf hu
          go_enter Try.func24, Try.ntmps24
          go_wp2_with (first | (go_at_call 44; refine HL.out.mono ?_; rintro e w1 ⟨rfl, rfl⟩) | (go_at_call 22; refine HOP.out.mono ?_; rintro e w1 ⟨rfl, rfl⟩) | (go_at_call 46; refine HFULL.out.mono ?_; rintro e w1 ⟨rfl, rfl⟩))
          go_ret
          exact HST.out 3
        · have hres : d.send a b l = (0, { d with bag := d.bag ++ [⟨a, b, l⟩] }) := by unfold Nt.send; rw [if_neg (by simp [hl]), if_neg hlen, if_neg (by simp [hop]), if_neg hf]
          have hok : ({ d with bag := d.bag ++ [⟨a, b, l⟩] } : Nt).ok := by have := ho.send a b l; rw [hres] at this; exact this
          rw [hres]
          rw [decide_eq_false hf] at HFULL
          have HFULL := Lib.hid HFULL
          have HC : Hid (Calls Try.prog 42 #[.slice ua l.length uc] w.drew (Gives w.drew l)) := clone_any _ l _ (hu.chg (Chg.refl (fun _ => False) w).drew fun _ h => h.elim) (by omega)
          have HP : Hid (∀ w4 v, OwnBytes w.heap.size w4 v l → Below w.heap.size w w4 → Calls Try.prog 47 #[.pointer (some ⟨p, 0, none⟩), .agg #[.int .i64 a, .int .i64 b, v]] w4 fun e w' => e = .returned (.tuple #[]) ∧ Does w O I p 0 { d with bag := d.bag ++ [⟨a, b, l⟩] } (.returned (.int .i64 0)) w') := fun w4 v hv hb => by
            have hlt := hv.lt
            have hw : NetP w4 O (fun k => I k ∨ v.ownBlock = some k) p d sv vs := (h.below hb).wide (fun k hk => .inl hk) (fun k hk hk2 => by
              rcases hk2 with hk2 | hk2
              · exact h.di k hk hk2
              · have := hlt k hk2; have := h.lt k (.inl hk); omega) (fun k hk => by
              rcases hk with hk | hk
              · have := h.lt k (.inr hk); have := hb.size; omega
              · exact (hlt k hk).2)
            refine (put_any hw ⟨a, b, l⟩ v (hv.bytesIn.wide fun k _ hk => .inr hk) (by rw [h.len]; omega)).mono ?_
            rintro e w' ⟨rfl, O', sv', hx, hs⟩
            have hbs := hb.size
            refine ⟨rfl, rfl, O', _, ⟨hok, sv', _, hx⟩, (Chg.of_below (S := O) hb (Nat.le_refl _)).trans hs.1, fun k hk => (hs.2.1 k hk).imp id fun h => by omega, fun k hk => ?_⟩
            rcases hs.2.2 k hk with h' | h'
            · rcases h' with h' | h'
              · exact .inl h'
              · exact .inr (hlt k h').1
            · right; omega
          obtain ⟨L, hL⟩ : ∃ L, l.length = L := ⟨_, rfl⟩
          rw [hL] at hlen HC ⊢
          have hlen : L ≤ 16384 := by omega
          clear h ho hA hl hres hop hf hu hok hL
          go_enter Try.func24, Try.ntmps24
          go_wp2_with (first | (go_at_call 44; refine HL.out.mono ?_; rintro e w1 ⟨rfl, rfl⟩) | (go_at_call 22; refine HOP.out.mono ?_; rintro e w1 ⟨rfl, rfl⟩) | (go_at_call 46; refine HFULL.out.mono ?_; rintro e w1 ⟨rfl, rfl⟩))
          go_region_held (fun _ => True) (trivial) (first | (go_at_call 42; refine HC.out.mono ?_; rintro e w4 ⟨v, rfl, ho4, hb4⟩; have HP4 := Lib.hid (HP.out w4 v ho4 ⟨hb4.os, hb4.tape, hb4.output, hb4.size, hb4.block⟩); obtain ⟨va, vc, rfl⟩ := ho4.form; clear ho4 hb4) | (go_at_call 47; refine HP4.out.mono ?_; rintro e w5 ⟨rfl, hx⟩; have HX := Lib.hid hx; clear hx))
          go_wp2
          go_ret
          exact HX.out
end Go.Proofs.Ytbmebmkpjbgdoaa
