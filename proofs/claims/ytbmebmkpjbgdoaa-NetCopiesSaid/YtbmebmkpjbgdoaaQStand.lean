/- stands: a net and the document's net, wherever they lie, are one. -/
import Derived.Test.YtbmebmkpjbgdoaaQActN
import Derived.Test.YtbmebmkpjbgdoaaStill
namespace Go.Proofs.Ytbmebmkpjbgdoaa
open Go.RowKit
def Pal (wi : World) (p q : Nat) (d e : Nt) : Prop := (∃ O I, NetAt wi O I p d) ∧ ∃ R, RefAt wi R q e
theorem Duo.pal {w : Fr} {wi : World} {K : Bks} {p q : Nat} {d e : Nt} (h : Duo w K wi p q d e) : Pal wi p q d e := by
  obtain ⟨R, ⟨O, I, h1, _⟩, h2, _⟩ := h
  exact ⟨⟨O, I, h1⟩, R, h2⟩
theorem Pal.still {wi w' : World} {p q : Nat} {d e : Nt} (h : Pal wi p q d e) (hb : Below wi.heap.size wi w') : Pal w' p q d e := by
  obtain ⟨⟨O, I, h1⟩, R, h2⟩ := h
  exact ⟨⟨O, I, h1.below hb (Nat.le_refl _)⟩, R, h2.keep (I := fun _ => True) (Keep.of_below hb) fun _ _ => trivial⟩
theorem Pal.nodes {wi : World} {p q : Nat} {d e : Nt} (h : Pal wi p q d e) : Calls Try.prog 20 #[.pointer (some ⟨p, 0, none⟩)] wi fun en w' => en = .returned (.int .i64 (d.n : Nat)) ∧ wi = w' := by
  obtain ⟨⟨O, I, ho, sv, vs, hd⟩, _⟩ := h
  exact hd.nodes ho
theorem Pal.lenC {wi : World} {p q : Nat} {d e : Nt} (h : Pal wi p q d e) : Calls Try.prog 21 #[.pointer (some ⟨p, 0, none⟩)] wi fun en w' => en = .returned (.int .i64 (d.bag.length : Nat)) ∧ wi = w' := by
  obtain ⟨⟨O, I, ho, sv, vs, hd⟩, _⟩ := h
  exact hd.lenC ho
theorem Pal.okay {wi : World} {p q : Nat} {d e : Nt} (h : Pal wi p q d e) : d.ok := by obtain ⟨⟨O, I, h1⟩, _⟩ := h; exact h1.1
theorem Pal.cells {wi : World} {p q : Nat} {d e : Nt} (h : Pal wi p q d e) : wi.cell? ⟨q, 0, none⟩ = some (.int .i64 (e.n : Nat)) ∧ ∃ a c, wi.cell? ⟨q, 1, none⟩ = some (.slice a e.bag.length c) := by
  obtain ⟨_, R, ho, bv, cv, vs, ps, h2⟩ := h
  obtain ⟨a, c, e1⟩ := h2.row.form
  refine ⟨h2.c0, a, c, ?_⟩
  rw [h2.c1, e1, h2.len]
theorem Pal.opens {wi : World} {p q : Nat} {d e : Nt} (h : Pal wi p q d e) (a b : Int) : Calls Try.prog 22 #[.pointer (some ⟨p, 0, none⟩), .int .i64 a, .int .i64 b] wi fun en w' => en = .returned (.bool (d.isOpen a b)) ∧ wi = w' := by
  obtain ⟨⟨O, I, ho, sv, vs, hd⟩, _⟩ := h
  exact open_at hd ho a b
theorem Pal.tells {wi : World} {p q : Nat} {d e : Nt} (h : Pal wi p q d e) (i : Int) : Calls Try.prog 17 #[.pointer (some ⟨p, 0, none⟩), .int .i64 i] wi fun en w' => ∃ a c, en = .returned (.tuple #[.agg #[.int .i64 (d.at i).1.fr, .int .i64 (d.at i).1.to, .slice a (d.at i).1.b.length c], .int .i64 (d.at i).2]) ∧ BytesAt w' (.slice a (d.at i).1.b.length c) (d.at i).1.b ∧ Below wi.heap.size wi w' := by
  obtain ⟨⟨O, I, ho, sv, vs, hd⟩, _⟩ := h
  refine (at_any hd ho i).mono ?_
  rintro en w' ⟨u, rfl, hown, hbl⟩
  obtain ⟨a, c, rfl⟩ := hown.form
  exact ⟨a, c, rfl, hown.at, hbl⟩
theorem Pal.rtells {wi : World} {p q : Nat} {d e : Nt} (h : Pal wi p q d e) (i : Int) : Calls Try.prog 33 #[.pointer (some ⟨q, 0, none⟩), .int .i64 i] wi fun en w' => ∃ a c, en = .returned (.tuple #[.agg #[.int .i64 (e.at i).1.fr, .int .i64 (e.at i).1.to, .slice a (e.at i).1.b.length c], .int .i64 (e.at i).2]) ∧ BytesAt w' (.slice a (e.at i).1.b.length c) (e.at i).1.b ∧ Below wi.heap.size wi w' := by
  obtain ⟨_, R, ho, bv, cv, vs, ps, h⟩ := h
  refine (rat_any h i).mono ?_
  rintro en w' ⟨a, c, rfl, hb, hbl⟩
  exact ⟨a, c, rfl, hb.at, hbl⟩
theorem Pal.ropen {wi : World} {p q : Nat} {d e : Nt} (h : Pal wi p q d e) (a b : Int) : Calls Try.prog 41 #[.pointer (some ⟨q, 0, none⟩), .int .i64 a, .int .i64 b] wi fun en w' => en = .returned (.bool (e.isOpen a b)) ∧ Below wi.heap.size wi w' := by
  obtain ⟨_, R, ho, bv, cv, vs, ps, h2⟩ := h
  exact ropen_any h2 a b
theorem same_one (m : Msg) (L : Nat) (hL : m.b.length = L) (a a' : Option Addr) (c c' : Nat) (W : World) (h1 : BytesAt W (.slice a L c) m.b) (h2 : BytesAt W (.slice a' L c') m.b) :
    Calls Try.prog 35 #[.agg #[.int .i64 m.fr, .int .i64 m.to, .slice a L c], .agg #[.int .i64 m.fr, .int .i64 m.to, .slice a' L c']] W fun e w' => e = .returned (.bool true) ∧ Below W.heap.size W w' := by
  subst hL
  have := same_any m m (.slice a m.b.length c) (.slice a' m.b.length c') W h1 h2
  rwa [show Msg.same m m = true by simp [Msg.same]] at this
theorem calls_on_eq {W0 W : World} (hC : On W0 W) {f : Nat} {args : Array Value} {v : Value} (h : Calls Try.prog f args W fun e w' => e = .returned v ∧ W = w') : Calls Try.prog f args W fun e w' => e = .returned v ∧ On W0 w' :=
  h.mono fun _ _ ⟨he, hb⟩ => ⟨he, by rw [← hb]; exact hC⟩
set_option maxRecDepth 100000 in
set_option maxHeartbeats 4000000 in
theorem stands_any {wi : World} {p q : Nat} {d : Nt} (h : Pal wi p q d d) :
    Calls Try.prog 16 #[.pointer (some ⟨p, 0, none⟩), .pointer (some ⟨q, 0, none⟩)] wi fun e w' => e = .returned (.bool true) ∧ Below wi.heap.size wi w' := by
  have HD : Hid (∀ W, On wi W → Pal W p q d d) := fun W hb => h.still hb
  obtain ⟨N, hN⟩ : ∃ N, d.n = N := ⟨_, rfl⟩
  obtain ⟨B, hB⟩ : ∃ B, d.bag.length = B := ⟨_, rfl⟩
  have HN : Hid (∀ W, On wi W → Calls Try.prog 20 #[.pointer (some ⟨p, 0, none⟩)] W fun en w' => en = .returned (.int .i64 (N : Nat)) ∧ W = w') := fun W hd => by rw [← hN]; exact (HD.out W hd).nodes
  have HL : Hid (∀ W, On wi W → Calls Try.prog 21 #[.pointer (some ⟨p, 0, none⟩)] W fun en w' => en = .returned (.int .i64 (B : Nat)) ∧ W = w') := fun W hd => by rw [← hB]; exact (HD.out W hd).lenC
  have hc1 : ∃ a1 z1, wi.cell? ⟨q, 1, none⟩ = some (.slice a1 B z1) := by rw [← hB]; exact h.cells.2
  have hc0 : wi.cell? ⟨q, 0, none⟩ = some (.int .i64 (N : Nat)) := by rw [← hN]; exact h.cells.1
  obtain ⟨a1, z1, hc1⟩ := hc1
  have HC : Hid (∀ W, On wi W → W.cell? ⟨q, 0, none⟩ = some (.int .i64 (N : Nat)) ∧ W.cell? ⟨q, 1, none⟩ = some (.slice a1 B z1)) := fun W hb =>
    ⟨by rw [Below.cell hb (World.block_lt_of_cell? wi _ hc0)]; exact hc0, by rw [Below.cell hb (World.block_lt_of_cell? wi _ hc1)]; exact hc1⟩
  have HT : Hid (∀ W i, On wi W → Calls Try.prog 17 #[.pointer (some ⟨p, 0, none⟩), .int .i64 i] W fun en w' => ∃ a c, en = .returned (.tuple #[.agg #[.int .i64 (d.at i).1.fr, .int .i64 (d.at i).1.to, .slice a (d.at i).1.b.length c], .int .i64 (d.at i).2]) ∧ BytesAt w' (.slice a (d.at i).1.b.length c) (d.at i).1.b ∧ Below W.heap.size W w') := fun W i hb => (HD.out W hb).tells i
  have HR : Hid (∀ W i, On wi W → Calls Try.prog 33 #[.pointer (some ⟨q, 0, none⟩), .int .i64 i] W fun en w' => ∃ a c, en = .returned (.tuple #[.agg #[.int .i64 (d.at i).1.fr, .int .i64 (d.at i).1.to, .slice a (d.at i).1.b.length c], .int .i64 (d.at i).2]) ∧ BytesAt w' (.slice a (d.at i).1.b.length c) (d.at i).1.b ∧ Below W.heap.size W w') := fun W i hb => (HD.out W hb).rtells i
  have HO : Hid (∀ W a b, On wi W → Calls Try.prog 22 #[.pointer (some ⟨p, 0, none⟩), .int .i64 a, .int .i64 b] W fun en w' => en = .returned (.bool (d.isOpen a b)) ∧ W = w') := fun W a b hb => (HD.out W hb).opens a b
  have HP : Hid (∀ W a b, On wi W → Calls Try.prog 41 #[.pointer (some ⟨q, 0, none⟩), .int .i64 a, .int .i64 b] W fun en w' => en = .returned (.bool (d.isOpen a b)) ∧ Below W.heap.size W w') := fun W a b hb => (HD.out W hb).ropen a b
  have hN15 : N ≤ 15 := by rw [← hN]; exact h.okay.most
  have hB64 : B ≤ 64 := by rw [← hB]; exact h.okay.len
  have kN : ((N : Int) == (N : Int)) = true := by simp
  have kB : ((B : Int) == (B : Int)) = true := by simp
  clear hN hB h HD hc0 hc1
  go_enter Try.func16, Try.ntmps16
  go_wp2_with fail
  refine region_on (by kernel_rfl) (by kernel_rfl) wi (Below.refl _ _) ?_
  repeat (first
    | go_big_quiet_skip
    | (go_big_quiet_want; go_big_quiet_op; (first
      | go_big_quiet_on
      | (apply Exists.intro; refine ⟨fun _ hC => ?_, ?_⟩; with_reducible (first
          | exact rfl
          | exact calls_on_eq hC (HN.out _ hC)
          | exact calls_on_eq hC (HL.out _ hC)
          | (have hcell := HC.out _ hC; simp only [hcell, Result.andThen]; (first | exact rfl | exact ⟨rfl, rfl⟩ | exact ⟨trivial, rfl⟩))); go_big_quiet_on))))
  refine wpQuiet_nil ?_
  intro w2 hO2
  have HO2 := Lib.hid hO2
  clear hO2
  go_wp2_with fail
  go_loopw [5] (fun i wr => ∃ k : Nat, k ≤ B + 2 ∧ i = .int .i64 ((k : Int) - 1) ∧ Hid (On wi wr)) (fun i _ => B + 2 - (intOf i + 1).toNat)
  case atStart => exact ⟨0, Nat.zero_le _, rfl, HO2.out⟩
  case round =>
    obtain ⟨k, hk, rfl, HI⟩ := hrel
    obtain ⟨c0, c1⟩ := HC.out wr HI.out
    clear c0
    by_cases hlt : k ≤ B + 1
    · have hltz : (k : Int) - 1 ≤ (B : Int) := by omega
      obtain ⟨m, r, hm⟩ : ∃ m r, d.at ((k : Int) - 1) = (m, r) := ⟨_, _, rfl⟩
      obtain ⟨L, hL⟩ : ∃ L, m.b.length = L := ⟨_, rfl⟩
      have ht := HT.out wr ((k : Int) - 1) HI.out
      have hr := fun W hb => HR.out W ((k : Int) - 1) hb
      rw [hm] at ht
      simp only [hm] at hr
      dsimp only at ht
      rw [hL] at ht
      simp only [hL] at hr
      have HTK := Lib.hid ht
      have HRK := Lib.hid hr
      have HS := Lib.hid (same_one m L hL)
      obtain ⟨fr, to, mb⟩ := m
      dsimp only at HTK HRK HS
      have kr : (r == r) = true := by simp
      clear ht hr hm hL
      go_wp2_with fail
      refine HTK.out.mono ?_
      rintro e w3 ⟨a2, z2, rfl, hb2, hB2⟩
      obtain ⟨W3, hW3⟩ : ∃ W3, W3 = w3.alloc (.cells #[.int .i64 fr, .int .i64 to, .slice a2 L z2] 49) := ⟨_, rfl⟩
      have hbb : Below w3.heap.size w3 W3 := by rw [hW3]; exact Go.Joins.below_alloc1 w3 _
      have HO3 := Lib.hid (show On wi W3 from (On.step HI.out hB2).step hbb)
      have HX3 := Lib.hid (show BoxM W3 w3.heap.size fr to (.slice a2 L z2) ∧ BytesAt W3 (.slice a2 L z2) mb from ⟨by rw [hW3]; exact BoxM.new w3 fr to _, BytesIn.below hb2 hbb (Nat.le_refl _)⟩)
      clear hbb hb2 hB2 c1
      go_wp2_with fail
      rw [← hW3]
      clear hW3
      refine (HRK.out W3 HO3.out).mono ?_
      rintro e w4 ⟨b4, z4, rfl, hb4, hB4⟩
      obtain ⟨W5, hW5⟩ : ∃ W5, W5 = w4.alloc (.cells #[.int .i64 fr, .int .i64 to, .slice b4 L z4] 49) := ⟨_, rfl⟩
      have hbb : Below w4.heap.size w4 W5 := by rw [hW5]; exact Go.Joins.below_alloc1 w4 _
      have HO5 := Lib.hid (show On wi W5 from (On.step HO3.out hB4).step hbb)
      have hb35 : Below W3.heap.size W3 W5 := hB4.trans (hbb.mono hB4.size)
      have hx5 : BoxM W5 w3.heap.size fr to (.slice a2 L z2) := (hb35.block _ HX3.out.1.lt).trans HX3.out.1
      have hy5 : BoxM W5 w4.heap.size fr to (.slice b4 L z4) := by rw [hW5]; exact BoxM.new w4 fr to _
      have HSS := Lib.hid (HS.out a2 b4 z2 z4 W5 (BytesIn.below HX3.out.2 hb35 (Nat.le_refl _)) (BytesIn.below hb4 hbb (Nat.le_refl _)))
      have xc := fun o => (show BoxM (w4.alloc o) w3.heap.size fr to (.slice a2 L z2) from ((hB4.trans ((Go.Joins.below_alloc1 w4 o).mono hB4.size)).block _ HX3.out.1.lt).trans HX3.out.1).c
      simp only [forall_and] at xc
      obtain ⟨x0, x1, x2⟩ := xc
      clear hbb hb35 hx5 hy5 hb4 hB4
      go_wp2_with fail
      rw [← hW5]
      clear hW5
      refine HSS.out.mono ?_
      rintro e w6 ⟨rfl, hB6⟩
      have HO6 := Lib.hid (On.step HO5.out hB6)
      clear hB6 x0 x1 x2
      go_wp2
      go_roundw
      case rel => exact ⟨k + 1, by omega, by go_num, HO6.out⟩
      case measure => simp [intOf]; omega
    · obtain rfl : k = B + 2 := by omega
      have hltz : ¬ ((B + 2 : Nat) : Int) - 1 ≤ (B : Int) := by omega
      go_wp2
      clear c1
      go_loopw [10] (fun i wr => ∃ x : Nat, x ≤ N + 2 ∧ i = .int .i64 (x : Nat) ∧ Hid (On wi wr)) (fun i _ => N + 2 - (intOf i).toNat)
      case atStart => exact ⟨0, Nat.zero_le _, rfl, HI.out⟩
      case round =>
        obtain ⟨x, hx, rfl, HI1⟩ := hrel
        obtain ⟨c0, c1⟩ := HC.out wr HI1.out
        clear c1
        by_cases hlt1 : x ≤ N + 1
        · have hlz1 : (x : Int) ≤ (N : Int) + 1 := by omega
          go_wp2
          clear c0
          go_loopw [11] (fun i wr => ∃ y : Nat, y ≤ N + 2 ∧ i = .int .i64 (y : Nat) ∧ Hid (On wi wr)) (fun i _ => N + 2 - (intOf i).toNat)
          case atStart => exact ⟨0, Nat.zero_le _, rfl, HI1.out⟩
          case round =>
            obtain ⟨y, hy, rfl, HI2⟩ := hrel
            obtain ⟨c0, c1⟩ := HC.out wr HI2.out
            clear c1
            by_cases hlt2 : y ≤ N + 1
            · have hlz2 : (y : Int) ≤ (N : Int) + 1 := by omega
              have HO2 := Lib.hid (HO.out wr (x : Int) (y : Int) HI2.out)
              have HP2 := Lib.hid (HP.out wr (x : Int) (y : Int) HI2.out)
              obtain ⟨z, hz⟩ : ∃ z, d.isOpen (x : Int) (y : Int) = z := ⟨_, rfl⟩
              rw [hz] at HO2 HP2
              clear hz
              have kz : (z == z) = true := by simp
              go_wp2_with fail
              refine HO2.out.mono ?_
              rintro e w6 ⟨rfl, rfl⟩
              go_wp2_with fail
              refine HP2.out.mono ?_
              rintro e w7 ⟨rfl, hB7⟩
              have HO7 := Lib.hid (On.step HI2.out hB7)
              clear hB7 c0
              go_wp2
              go_roundw
              case rel => exact ⟨y + 1, by omega, by go_num, HO7.out⟩
              case measure => simp [intOf]; omega
            · obtain rfl : y = N + 2 := by omega
              have hlz2 : ¬ ((N + 2 : Nat) : Int) ≤ (N : Int) + 1 := by omega
              go_wp2
              go_roundw
              case rel => exact ⟨x + 1, by omega, by go_num, HI2.out⟩
              case measure => simp [intOf]; omega
        · obtain rfl : x = N + 2 := by omega
          have hlz1 : ¬ ((N + 2 : Nat) : Int) ≤ (N : Int) + 1 := by omega
          go_wp2
          go_ret
          exact ⟨rfl, HI1.out⟩
end Go.Proofs.Ytbmebmkpjbgdoaa
