/- The highest of promises. -/
import Derived.Test.YtomoomeocolkmaaProm
namespace Go.Proofs.Ytomoomeocolkmaa
open Go.RowKit
def cmpA (x y : PV) : Int := x.a.cmp y.a
abbrev topP (l : List PV) : PV := topOf cmpA PV.zero l
set_option maxRecDepth 100000 in
set_option maxHeartbeats 1000000 in
theorem highestp_any (v : Value) (l : List PV) (w : World) (hp : PsAt w v l) :
    Calls Try.prog 42 #[.func (.func 43) #[] #[], v] w fun e w' => e = .returned (.tuple #[(topP l).val, .bool (decide (0 < l.length))]) ∧ Below w.heap.size w w' := by
  have HP := Lib.hid hp
  obtain ⟨a, cap, rfl, hlen, hlc, hn, hcells⟩ := hp
  obtain ⟨W, hW⟩ : ∃ W, W = (w.alloc (.cells #[.int .i64 0, .int .u64 0, .int .i64 0, .int .u64 0, .int .u64 0, .int .i64 0, .int .u64 0, .slice none 0 0] 47)).alloc (.cells #[.int .i64 0, .int .u64 0, .int .i64 0, .int .u64 0, .int .u64 0, .int .i64 0, .int .u64 0, .slice none 0 0] 47) := ⟨_, rfl⟩
  have HW : Hid (Below w.heap.size w W ∧ Box8 W w.heap.size PV.zero ∧ Box8 W (w.heap.size + 1) PV.zero) := by
    rw [hW]
    exact ⟨Go.Joins.below_alloc2 w _ _, (Box8.new w PV.zero).below (Go.Joins.below_alloc1 _ _) (by simp [World.size_alloc]), by have := Box8.new (w.alloc (.cells #[.int .i64 0, .int .u64 0, .int .i64 0, .int .u64 0, .int .u64 0, .int .i64 0, .int .u64 0, .slice none 0 0] 47)) PV.zero; rwa [World.size_alloc] at this⟩
  clear hcells hn hlc
  generalize hL : l.length = L at hlen ⊢
  have HL := Lib.hid hL
  clear hL
  obtain ⟨R, hR⟩ : ∃ R, topP l = R := ⟨_, rfl⟩
  rw [hR]
  have HT := Lib.hid hR
  clear hR
  go_enter Try.func42, Try.ntmps42
  go_wp2
  rw [← hW]
  clear hW
  go_loopw [11] (fun i wr => ∃ k : Nat, k ≤ L ∧ i = .int .i64 (k : Nat) ∧ Hid (Below w.heap.size w wr ∧ Box8 wr w.heap.size PV.zero ∧ Box8 wr (w.heap.size + 1) (topP (l.take k)))) (fun i _ => L - (intOf i).toNat)
  case atStart => exact ⟨0, Nat.zero_le _, rfl, HW.out⟩
  case round =>
    obtain ⟨k, hk, rfl, HR⟩ := hrel
    by_cases hlt : k < L
    · have hltz : (k : Int) < (L : Int) := by omega
      obtain ⟨a', cap', hv, _, _, _, hc⟩ := HP.out.below HR.out.1
      cases hv
      rw [HL.out] at hc
      obtain ⟨b, off, rfl, hb, hc⟩ := hc (by omega)
      obtain ⟨x, hx⟩ : ∃ x, l[k]? = some x := ⟨_, List.getElem?_eq_getElem (by rw [HL.out]; exact hlt)⟩
      obtain ⟨-, hr⟩ := hc k x hx
      have c0 : wr.cell? ⟨b, off + k * 8, none⟩ = some (.int .i64 x.f) := hr 0 (by omega)
      have c1 : wr.cell? ⟨b, off + k * 8 + 1, none⟩ = some (.int .u64 x.p.r) := hr 1 (by omega)
      have c2 : wr.cell? ⟨b, off + k * 8 + 2, none⟩ = some (.int .i64 x.p.n) := hr 2 (by omega)
      have c3 : wr.cell? ⟨b, off + k * 8 + 3, none⟩ = some (.int .u64 x.p.i) := hr 3 (by omega)
      have c4 : wr.cell? ⟨b, off + k * 8 + 4, none⟩ = some (.int .u64 x.a.r) := hr 4 (by omega)
      have c5 : wr.cell? ⟨b, off + k * 8 + 5, none⟩ = some (.int .i64 x.a.n) := hr 5 (by omega)
      have c6 : wr.cell? ⟨b, off + k * 8 + 6, none⟩ = some (.int .u64 x.a.i) := hr 6 (by omega)
      have c7 : wr.cell? ⟨b, off + k * 8 + 7, none⟩ = some (.slice x.ua x.b.length x.uc) := hr 7 (by omega)
      have HS := Lib.hid (topOf_succ cmpA PV.zero l k x hx)
      generalize hq : topP (l.take k) = q at HR
      have HS : Hid (topP (l.take (k + 1)) = if k = 0 ∨ 0 < x.a.cmp q.a then x else q) := by rw [← hq]; exact HS.out
      clear hc hr hx hq
      obtain ⟨W2, hW2⟩ : ∃ W2, W2 = wr.alloc x.obj := ⟨_, rfl⟩
      have HK : Hid (∀ w3, Below W2.heap.size W2 w3 → Box8 w3 wr.heap.size x ∧ Box8 w3 (w.heap.size + 1) q ∧ Box8 w3 w.heap.size PV.zero ∧ Below w.heap.size w w3) := fun w3 hb3 => by
        obtain ⟨h1, h2, h3⟩ := HR.out
        have hs : W2.heap.size = wr.heap.size + 1 := by rw [hW2, World.size_alloc]
        have hb2 : Below wr.heap.size wr w3 := (by rw [hW2]; exact Go.Joins.below_alloc1 wr _ : Below wr.heap.size wr W2).trans (hb3.mono (by omega))
        have := h2.lt
        have := h3.lt
        exact ⟨(show Box8 W2 wr.heap.size x by rw [hW2]; exact Box8.new wr x).below hb3 (by omega), h3.below hb2 (by omega), h2.below hb2 (by omega), h1.trans (hb2.mono (by omega))⟩
      have HB := Lib.hid hb
      clear hb
      by_cases hk0 : k = 0
      · have hk0b : ((k : Int) == 0) = true := by simp [hk0]
        have HS : Hid (topP (l.take (k + 1)) = x) := by rw [HS.out, if_pos (.inl hk0)]; exact rfl
        obtain ⟨h1, h2, h3⟩ := HR.out
        have hlt3 := h3.lt
        have hA : ∀ o, Box8 (wr.alloc o) (w.heap.size + 1) q := fun o => h3.below (Go.Joins.below_alloc1 wr o) h3.lt
        have hcs := fun o => (hA o).c
        simp only [forall_and] at hcs
        obtain ⟨zc0, zc1, zc2, zc3, zc4, zc5, zc6, zc7⟩ := hcs
        have zf := fun o => (hA o).fz
        have HX := Lib.hid (show ∀ o, Below w.heap.size w (put8 (wr.alloc o) (w.heap.size + 1) 0 x) ∧ Box8 (put8 (wr.alloc o) (w.heap.size + 1) 0 x) w.heap.size PV.zero ∧ Box8 (put8 (wr.alloc o) (w.heap.size + 1) 0 x) (w.heap.size + 1) x from fun o => by
          have hw := h1.alloc h1.size o
          have h2 := h2.below (Go.Joins.below_alloc1 wr o) h2.lt
          have hlt := (hA o).lt
          exact ⟨hw.trans ((put8_chg _ (w.heap.size + 1) 0 x).below (B := w.heap.size) hw.size (fun k hk => by omega)), h2.below (B := w.heap.size + 1) ((put8_chg _ (w.heap.size + 1) 0 x).below (by omega) (fun k hk => by omega)) (by omega), (hA o).put x⟩)
        clear h1 h2 h3 hA hlt3 HK hk0 hW2
        go_wp2_with fail
        go_roundw
        case rel => exact ⟨k + 1, by omega, by go_num, by have h := HX.out x.obj; rw [HS.out]; exact h⟩
        case measure => simp [intOf]; omega
      · have hk0b : ((k : Int) == 0) = false := by simp [hk0]
        have hA : ∀ o, Box8 (wr.alloc o) (w.heap.size + 1) q := fun o => HR.out.2.2.below (Go.Joins.below_alloc1 wr o) HR.out.2.2.lt
        have hcs := fun o => (hA o).c
        simp only [forall_and] at hcs
        obtain ⟨zc0, zc1, zc2, zc3, zc4, zc5, zc6, zc7⟩ := hcs
        have HC := Lib.hid (fun W => cmpa_any x q W)
        have HE := Lib.hid (show ∀ w3, Below W2.heap.size W2 w3 → (Below w.heap.size w w3 ∧ Box8 w3 w.heap.size PV.zero ∧ Box8 w3 (w.heap.size + 1) q) ∧ (Below w.heap.size w (put8 w3 (w.heap.size + 1) 0 x) ∧ Box8 (put8 w3 (w.heap.size + 1) 0 x) w.heap.size PV.zero ∧ Box8 (put8 w3 (w.heap.size + 1) 0 x) (w.heap.size + 1) x) from fun w3 hb => by
          obtain ⟨y1, y2, y3, y4⟩ := HK.out w3 hb
          have hlt := y2.lt
          exact ⟨⟨y4, y3, y2⟩, y4.trans ((put8_chg _ (w.heap.size + 1) 0 x).below (B := w.heap.size) y4.size (fun k hk => by omega)), y3.below (B := w.heap.size + 1) ((put8_chg _ (w.heap.size + 1) 0 x).below (by omega) (fun k hk => by omega)) (by omega), y2.put x⟩)
        generalize x.a.cmp q.a = C at HC HS
        by_cases hC : 0 < C
        · have HS : Hid (topP (l.take (k + 1)) = x) := by rw [HS.out, if_pos (.inr hC)]; exact rfl
          have hCd : decide (0 < C) = true := by simp [hC]
          clear hC hA hk0
          subst hW2
          go_wp2_with (go_at_call 43; refine (HC.out _).mono ?_; rintro e w3 ⟨rfl, hb3⟩; obtain ⟨y1, y2, _, _⟩ := HK.out w3 hb3; obtain ⟨x0, x1, x2, x3, x4, x5, x6, x7⟩ := y1.c; obtain ⟨v0, v1, v2, v3, v4, v5, v6, v7⟩ := y2.c; have vf := y2.fz; have HX := Lib.hid (HE.out w3 hb3).2; clear y1 y2 hb3)
          go_roundw
          case rel => exact ⟨k + 1, by omega, by go_num, by rw [HS.out]; exact HX.out⟩
          case measure => simp [intOf]; omega
        · have HS : Hid (topP (l.take (k + 1)) = q) := by rw [HS.out, if_neg (by omega)]; exact rfl
          have hCd : decide (0 < C) = false := by simp [hC]
          clear hC hA hk0
          subst hW2
          go_wp2_with (go_at_call 43; refine (HC.out _).mono ?_; rintro e w3 ⟨rfl, hb3⟩; have HX := Lib.hid (HE.out w3 hb3).1; clear hb3)
          go_roundw
          case rel => exact ⟨k + 1, by omega, by go_num, by rw [HS.out]; exact HX.out⟩
          case measure => simp [intOf]; omega
    · obtain rfl : k = L := by omega
      obtain ⟨h1, h2, h3⟩ := HR.out
      rw [List.take_of_length_le (by rw [HL.out]; exact Nat.le_refl _), HT.out] at h3
      obtain ⟨z0, z1, z2, z3, z4, z5, z6, z7⟩ := h3.c
      obtain ⟨v0, v1, v2, v3, v4, v5, v6, v7⟩ := h2.c
      have vf := h2.fz
      have hlz : decide (0 < (k : Int)) = decide (0 < k) := by simp
      have HX := Lib.hid (And.intro h1 h2)
      clear h1 h2 h3 hlt
      go_wp2
      exact ends_prom (q := R) (z := PV.zero) (w3 := wr) rfl rfl rfl HX.out.2 HX.out.1 (fun h => ⟨rfl, h⟩)
end Go.Proofs.Ytomoomeocolkmaa
