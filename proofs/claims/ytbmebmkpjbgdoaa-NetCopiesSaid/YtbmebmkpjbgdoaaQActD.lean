/- act: Deliver. -/
import Derived.Test.YtbmebmkpjbgdoaaQActA
namespace Go.Proofs.Ytbmebmkpjbgdoaa
open Go.RowKit
def putM (w : World) (g : Nat) (fr to : Int) (u : Value) : World := ((w.setCell ⟨g, 0, none⟩ (.int .i64 fr)).setCell ⟨g, 1, none⟩ (.int .i64 to)).setCell ⟨g, 2, none⟩ u
theorem putM_chg (w : World) (g : Nat) (fr to : Int) (u : Value) : Chg (fun k => k = g) w (putM w g fr to u) :=
  (((Chg.refl (fun k => k = g) w).setCell (p := ⟨g, 0, none⟩) (.inl rfl) _).setCell (p := ⟨g, 1, none⟩) (.inl rfl) _).setCell (p := ⟨g, 2, none⟩) (.inl rfl) _
theorem BoxM.put {w : World} {g : Nat} {fr to : Int} {u : Value} (h : BoxM w g fr to u) (fr' to' : Int) (u' : Value) : BoxM (putM w g fr' to' u') g fr' to' u' := by
  unfold putM
  exact Go.Joins.block_setCell (Go.Joins.block_setCell (Go.Joins.block_setCell h _) _) _
theorem BoxM.off {w : World} {g : Nat} {fr to : Int} {a : Option Addr} {n c : Nat} {v : Value} {l : Bs} (hx : BoxM w g fr to (.slice a n c)) (h : BytesAt w v l) : BytesIn (fun k => k ≠ g) w v l := by
  rcases h with ⟨rfl, rfl⟩ | ⟨ad, cap, rfl, hl, hb⟩
  · exact BytesIn.nil _ _
  · refine .inr ⟨ad, cap, rfl, hl, fun h0 => ?_⟩
    obtain ⟨b, off, rfl, ⟨hlt, -⟩, hc⟩ := hb h0
    refine ⟨b, off, rfl, ⟨hlt, fun e => ?_⟩, hc⟩
    have h1 := hc 0 h0
    subst e
    rw [Go.Joins.cell_of_block hx, Nat.add_zero] at h1
    rcases off with _ | _ | _ | off
    · simp at h1
    · simp at h1
    · simp at h1
    · simp at h1
set_option maxRecDepth 100000 in
set_option maxHeartbeats 4000000 in
theorem act_deliver {w : Fr} {wi : World} {K : Bks} {p q : Nat} {d : Nt} (h : Duo w K wi p q d d) (a b i : Int) (u : Value) :
    Calls Try.prog 15 #[.pointer (some ⟨p, 0, none⟩), .pointer (some ⟨q, 0, none⟩), .agg #[.int .i64 1, .int .i64 a, .int .i64 b, .int .i64 i, u]] wi (ActDoes w K wi p q (d.deliver i).2.2) := by
  obtain ⟨m9, r9, d9, hm9⟩ : ∃ m9 r9 d9, d.deliver i = (m9, r9, d9) := ⟨_, _, _, rfl⟩
  rw [hm9]
  obtain ⟨m, r, hm⟩ : ∃ m r, d.at i = (m, r) := ⟨_, _, rfl⟩
  obtain ⟨W1, hW1⟩ : ∃ W1, W1 = Box wi 1 a b i u := ⟨_, rfl⟩
  have hD := h.box 1 a b i u
  have HC : Hid (∀ W, Keep (fun k => K k ∨ k = wi.heap.size) W1 W → W.cell? ⟨wi.heap.size, 0, none⟩ = some (.int .i64 1) ∧ W.cell? ⟨wi.heap.size, 1, none⟩ = some (.int .i64 a) ∧ W.cell? ⟨wi.heap.size, 2, none⟩ = some (.int .i64 b) ∧ W.cell? ⟨wi.heap.size, 3, none⟩ = some (.int .i64 i) ∧ W.cell? ⟨wi.heap.size, 4, none⟩ = some u) := fun W hk => by rw [hW1] at hk; exact Box.cells hk
  have HK0 : Hid (Keep K wi W1) := by rw [hW1]; exact Keep.of_below (Go.Joins.below_alloc1 wi _)
  rw [← hW1] at hD
  unfold Box at hW1
  generalize hK1 : (fun k => K k ∨ k = wi.heap.size) = K1 at *
  have HKK : Hid (∀ k, K k → K1 k) := fun k hk => by rw [← hK1]; exact .inl hk
  have HNT := Lib.hid (show Calls Try.prog 17 #[.pointer (some ⟨p, 0, none⟩), .int .i64 i] W1 (NTells w K1 W1 p q m r d d) by have := hD.netTell (fun J hJ => hJ.tell i); rwa [hm] at this)
  have HRT := Lib.hid (show ∀ K' W, Duo w K' W p q d d → Calls Try.prog 33 #[.pointer (some ⟨q, 0, none⟩), .int .i64 i] W (DTells w K' W p q m r d d) from fun K' W hd => by have := hd.refTell (fun R hR => rat_tells hR i); rwa [hm] at this)
  have HN9 := Lib.hid (show ∀ K' W, Duo w K' W p q d d → Calls Try.prog 18 #[.pointer (some ⟨p, 0, none⟩), .int .i64 i] W (NTells w K' W p q m9 r9 d9 d) from fun K' W hd => by have := hd.netTell (fun J hJ => hJ.deliver i); rwa [hm9] at this)
  have HR9 := Lib.hid (show ∀ K' W, Duo w K' W p q d9 d → Calls Try.prog 34 #[.pointer (some ⟨q, 0, none⟩), .int .i64 i] W (DTells w K' W p q m9 r9 d9 d9) from fun K' W hd => by have := hd.refTell (fun R hR => rdeliver_any hR i); rwa [hm9] at this)
  have HK1L : Hid (∀ k, K1 k → k < W1.heap.size) := hD.lt
  have HWS := Lib.hid hD.below.size
  clear hK1 h hD hm hm9
  dsimp only
  obtain ⟨fr, to, mb⟩ := m
  obtain ⟨L, hL⟩ : ∃ L, mb.length = L := ⟨_, rfl⟩
  have HL := Lib.hid hL
  obtain ⟨fr9, to9, mb9⟩ := m9
  obtain ⟨L9, hL9⟩ : ∃ L9, mb9.length = L9 := ⟨_, rfl⟩
  have HL9 := Lib.hid hL9
  unfold NTells at HNT HN9
  unfold DTells at HRT HR9
  dsimp only at HNT HRT HN9 HR9
  rw [hL] at HNT HRT
  rw [hL9] at HN9 HR9
  clear hL hL9
  go_enter Try.func15, Try.ntmps15
  go_wp2_with fail
  rw [← hW1]
  clear hW1
  refine HNT.out.mono ?_
  rintro e w2 ⟨a2, c2, rfl, ho2, hd2, hk2⟩
  generalize hX : (fun k => K1 k ∨ (Value.slice a2 L c2).ownBlock = some k) = K2 at hd2
  have HX := Lib.hid (show (∀ k, (Value.slice a2 L c2).ownBlock = some k → K2 k) ∧ (∀ k, K1 k → K2 k) from ⟨fun k hk => by rw [← hX]; exact .inr hk, fun k hk => by rw [← hX]; exact .inl hk⟩)
  have hd3 := hd2.write (C := fun _ => False) (Chg.of_below (Go.Joins.below_alloc1 w2 (.cells #[.int .i64 fr, .int .i64 to, .slice a2 L c2] 49)) (Nat.le_refl _)) (fun _ h => h.elim) (fun k => k = w2.heap.size) fun k hk => ⟨by omega, by rw [World.size_alloc]; omega⟩
  generalize hK3 : (fun k => K2 k ∨ k = w2.heap.size) = K3 at hd3
  have HX3 := Lib.hid (show (∀ k, K2 k → K3 k) ∧ K3 w2.heap.size from ⟨fun k hk => by rw [← hK3]; exact .inl hk, by rw [← hK3]; exact .inr rfl⟩)
  have HB3 := Lib.hid (BoxM.new w2 fr to (.slice a2 L c2))
  have HO3 := Lib.hid (ho2.alloc (.cells #[.int .i64 fr, .int .i64 to, .slice a2 L c2] 49))
  have HKD := Lib.hid (show Keep K1 W1 (w2.alloc (.cells #[.int .i64 fr, .int .i64 to, .slice a2 L c2] 49)) from hk2.trans (Keep.of_below (Go.Joins.below_alloc1 w2 _)))
  have c3a := fun o => (HC.out (w2.alloc o) (hk2.trans (Keep.of_below (Go.Joins.below_alloc1 w2 _)))).2.2.2.1
  have HD3 := Lib.hid hd3
  have HW12 := Lib.hid hk2.1
  have HOL := Lib.hid (show ∀ k, (Value.slice a2 L c2).ownBlock = some k → W1.heap.size ≤ k ∧ k < w2.heap.size from fun k hk => ho2.lt k hk)
  clear hX hK3 hd2 hk2 ho2 hd3
  go_wp2_with fail
  refine (HRT.out K3 _ HD3.out).mono ?_
  rintro e w4 ⟨b4, cb4, rfl, hb4, hd4, hk4⟩
  obtain ⟨W5, hW5⟩ : ∃ W5, W5 = w4.alloc (.cells #[.int .i64 fr, .int .i64 to, .slice b4 L cb4] 49) := ⟨_, rfl⟩
  have hd5 := hd4.write (C := fun _ => False) (w' := W5) (by rw [hW5]; exact Chg.of_below (Go.Joins.below_alloc1 w4 _) (Nat.le_refl _)) (fun _ h => h.elim) (fun k => k = w4.heap.size) fun k hk => ⟨by omega, by rw [hW5, World.size_alloc]; omega⟩
  generalize hK5 : (fun k => K3 k ∨ k = w4.heap.size) = K5 at hd5
  have HX5 := Lib.hid (show (∀ k, K3 k → K5 k) ∧ K5 w4.heap.size from ⟨fun k hk => by rw [← hK5]; exact .inl hk, by rw [← hK5]; exact .inr rfl⟩)
  have hk5 : Keep K3 (w2.alloc (.cells #[.int .i64 fr, .int .i64 to, .slice a2 L c2] 49)) W5 := hk4.trans (by rw [hW5]; exact Keep.of_below (Go.Joins.below_alloc1 w4 _))
  have HB5 := Lib.hid (show BoxM W5 w2.heap.size fr to (.slice a2 L c2) ∧ BoxM W5 w4.heap.size fr to (.slice b4 L cb4) ∧ W5.heap.size = w4.heap.size + 1 from ⟨keep_block' hk5 HX3.out.2 HB3.out, by rw [hW5]; exact BoxM.new w4 _ _ _, by rw [hW5, World.size_alloc]⟩)
  have HK5 := Lib.hid (show Keep K1 W1 W5 from HKD.out.trans (hk5.mono fun k hk => HX3.out.1 k (HX.out.2 k hk)))
  have c0a := fun o => (HC.out (w4.alloc o) (HKD.out.trans ((hk4.trans (Keep.of_below (I := K3) (Go.Joins.below_alloc1 w4 o))).mono fun k hk => HX3.out.1 k (HX.out.2 k hk)))).1
  have c3b := fun o => (HC.out (w4.alloc o) (HKD.out.trans ((hk4.trans (Keep.of_below (I := K3) (Go.Joins.below_alloc1 w4 o))).mono fun k hk => HX3.out.1 k (HX.out.2 k hk)))).2.2.2.1
  have HD5 := Lib.hid hd5
  have hk13 : ∀ k, K1 k → K5 k := fun k hk => HX5.out.1 k (HX3.out.1 k (HX.out.2 k hk))
  have HK13 := Lib.hid hk13
  have h24 : w2.heap.size < w4.heap.size := by have := hk4.1; rw [World.size_alloc] at this; omega
  have HSZ := Lib.hid (show w.heap.size ≤ w2.heap.size ∧ w2.heap.size < w4.heap.size ∧ W1.heap.size ≤ w2.heap.size from ⟨by have := HWS.out; have := HW12.out; omega, h24, HW12.out⟩)
  clear hb4 hd4 hk4 hd5 hK5 hk5 c3a hk13 h24
  go_wp2_with fail
  rw [← hW5]
  clear hW5 c0a c3b
  refine (HN9.out K5 _ HD5.out).mono ?_
  rintro e w6 ⟨a6, c6, rfl, ho6, hd6, hk6⟩
  generalize hX6 : (fun k => K5 k ∨ (Value.slice a6 L9 c6).ownBlock = some k) = K6 at hd6
  have HX6 := Lib.hid (show (∀ k, (Value.slice a6 L9 c6).ownBlock = some k → K6 k) ∧ (∀ k, K5 k → K6 k) from ⟨fun k hk => by rw [← hX6]; exact .inr hk, fun k hk => by rw [← hX6]; exact .inl hk⟩)
  have hx2 := keep_block' hk6 (HX5.out.1 _ HX3.out.2) HB5.out.1
  have hx4 := keep_block' hk6 HX5.out.2 HB5.out.2.1
  have hb2 : BoxM w6 w2.heap.size fr to (.slice a2 L c2) := hx2
  have hb4 : BoxM w6 w4.heap.size fr to (.slice b4 L cb4) := hx4
  obtain ⟨x0, x1, x2⟩ := hb2.c
  have xf := hb2.fz
  have c3c := (HC.out w6 (HK5.out.trans (hk6.mono HK13.out))).2.2.2.1
  obtain ⟨W7, hW7⟩ : ∃ W7, W7 = putM w6 w2.heap.size fr9 to9 (.slice a6 L9 c6) := ⟨_, rfl⟩
  have hc7 : Chg (fun k => k = w2.heap.size) w6 W7 := by rw [hW7]; exact putM_chg _ _ _ _ _
  have hd7 := (hd6.write hc7 (fun k hk => by rw [hk]; exact ⟨HX6.out.2 _ (HX5.out.1 _ HX3.out.2), HSZ.out.1⟩) (fun _ => False) fun _ h => h.elim).narrow (K' := K6) fun _ h => .inl h
  have HB7 := Lib.hid (show BoxM W7 w2.heap.size fr9 to9 (.slice a6 L9 c6) ∧ BoxM W7 w4.heap.size fr to (.slice b4 L cb4) from ⟨by rw [hW7]; exact hb2.put _ _ _, hc7.heap hb4 (by have := HSZ.out.2.1; omega)⟩)
  have h65 : W5.heap.size ≤ w6.heap.size := hk6.1
  have HO7 := Lib.hid (show OwnBytes W5.heap.size W7 (.slice a6 L9 c6) mb9 from ho6.chg hc7 fun k hk he => by have h1 := (ho6.lt k hk).1; have h2 := HB5.out.2.2; have h3 := HSZ.out.2.1; omega)
  have HOL6 := Lib.hid (show ∀ k, (Value.slice a6 L9 c6).ownBlock = some k → W5.heap.size ≤ k ∧ k < w6.heap.size from fun k hk => ho6.lt k hk)
  have HK7 := Lib.hid (show Keep K1 W1 W7 from (HK5.out.trans (hk6.mono HK13.out)).trans (hc7.keep fun k hk hK => by have h1 := HK1L.out k hK; have h2 := HSZ.out.2.2; omega))
  have HD7 := Lib.hid hd7
  unfold putM at hW7
  clear hd6 hk6 ho6 hX6 hx2 hx4 hb2 hb4 hc7 hd7 h65
  go_wp2_with fail
  rw [← hW7]
  clear hW7 x0 x1 x2 xf c3c
  refine (HR9.out K6 _ HD7.out).mono ?_
  rintro e w8 ⟨b8, c8, rfl, hbb8, hd8, hk8⟩
  have hx2 : BoxM w8 w2.heap.size fr9 to9 (.slice a6 L9 c6) := keep_block' hk8 (HX6.out.2 _ (HX5.out.1 _ HX3.out.2)) HB7.out.1
  have hx4 : BoxM w8 w4.heap.size fr to (.slice b4 L cb4) := keep_block' hk8 (HX6.out.2 _ HX5.out.2) HB7.out.2
  obtain ⟨x0, x1, x2⟩ := hx2.c
  obtain ⟨z0, z1, z2⟩ := hx4.c
  have zf := hx4.fz
  have hne1 : w2.heap.size ≠ w4.heap.size := by have := HSZ.out.2.1; omega
  have hne2 : w4.heap.size ≠ w2.heap.size := by omega
  obtain ⟨W9, hW9⟩ : ∃ W9, W9 = putM w8 w4.heap.size fr9 to9 (.slice b8 L9 c8) := ⟨_, rfl⟩
  have hc9 : Chg (fun k => k = w4.heap.size) w8 W9 := by rw [hW9]; exact putM_chg _ _ _ _ _
  have hd9 := (hd8.write hc9 (fun k hk => by rw [hk]; exact ⟨HX6.out.2 _ HX5.out.2, by have h1 := HSZ.out.1; have h2 := HSZ.out.2.1; omega⟩) (fun _ => False) fun _ h => h.elim).narrow (K' := K6) fun _ h => .inl h
  have ho9 : OwnBytes W5.heap.size W9 (.slice a6 L9 c6) mb9 := (HO7.out.keep hk8 fun k hk => HX6.out.1 k hk).chg hc9 fun k hk he => by have h1 := (HOL6.out k hk).1; have h2 := HB5.out.2.2; omega
  have hbx9 : BoxM W9 w2.heap.size fr9 to9 (.slice a6 L9 c6) := hc9.heap hx2 (by omega)
  have hbb9 : BytesAt W9 (.slice b8 L9 c8) mb9 := ((hx4.off hbb8).chg hc9 fun k hk hn => hn hk).at
  have HK9 := Lib.hid (show Keep K1 W1 W9 from (HK7.out.trans (hk8.mono fun k hk => HX6.out.2 k (HK13.out k hk))).trans (hc9.keep fun k hk hK => by have h1 := HK1L.out k hK; have h2 := HSZ.out.2.1; have h3 := HSZ.out.2.2; omega))
  have HS := Lib.hid (show Calls Try.prog 35 #[.agg #[.int .i64 fr9, .int .i64 to9, .slice a6 L9 c6], .agg #[.int .i64 fr9, .int .i64 to9, .slice b8 L9 c8]] W9 fun e w' => e = .returned (.bool true) ∧ Below W9.heap.size W9 w' from by
    have := same_any ⟨fr9, to9, mb9⟩ ⟨fr9, to9, mb9⟩ (.slice a6 L9 c6) (.slice b8 L9 c8) W9 ho9.at hbb9
    rwa [show Msg.same ⟨fr9, to9, mb9⟩ ⟨fr9, to9, mb9⟩ = true by simp [Msg.same]] at this)
  have H9 := Lib.hid (And.intro hbx9 (And.intro ho9 hd9))
  have kr : (r9 == r9) = true := by simp
  unfold putM at hW9
  clear hbb8 hd8 hk8 hx2 hx4 hc9 hd9 ho9 hbx9 hbb9
  go_wp2_with fail
  rw [← hW9]
  clear hW9 x0 x1 x2 z0 z1 z2 zf
  refine HS.out.mono ?_
  rintro e w10 ⟨rfl, hb10⟩
  have H6 := Lib.hid (show BoxM w10 w2.heap.size fr9 to9 (.slice a6 L9 c6) ∧ OwnBytes W5.heap.size w10 (.slice a6 L9 c6) mb9 ∧ Duo w K6 w10 p q d9 d9 ∧ Keep K1 W1 w10 from
    ⟨(hb10.block _ H9.out.1.lt).trans H9.out.1, H9.out.2.1.kept hb10 (Nat.le_refl _), H9.out.2.2.still hb10, HK9.out.trans (Keep.of_below hb10)⟩)
  have HXB := Lib.hid (show ∀ k, (Value.slice a6 L9 c6).ownBlock = some k → K6 k ∧ w.heap.size ≤ k ∧ W1.heap.size ≤ k ∧ k ≠ w2.heap.size from fun k hk => by
    have h1 := (HOL6.out k hk).1
    have h2 := HB5.out.2.2
    have h3 := HSZ.out
    exact ⟨HX6.out.1 k hk, by omega, by omega, by omega⟩)
  have HKK3 := Lib.hid (show ∀ k, K1 k → K6 k from fun k hk => HX6.out.2 k (HK13.out k hk))
  clear hb10
  have hsl := H6.out.1.c
  have G10L := Lib.hid H6.out.1.lt
  have hLm9 : L9 ≤ 9223372036854775807 := by have := OwnBytes.at H6.out.2.1; rw [← HL9.out]; exact BytesIn.length_le this
  obtain ⟨y0, y1, y2⟩ := hsl
  clear y0 y1
  go_wp2
  clear y2
  go_loopw [15] (fun i wr => ∃ k : Nat, k ≤ L9 ∧ i = .int .i64 (k : Nat) ∧ Hid (∃ l' : Bs, l'.length = L9 ∧ OwnBytes W5.heap.size wr (.slice a6 L9 c6) l' ∧ Duo w K6 wr p q d9 d9 ∧ BoxM wr w2.heap.size fr9 to9 (.slice a6 L9 c6) ∧ Keep K1 w10 wr)) (fun i _ => L9 - (intOf i).toNat)
  case atStart => exact ⟨0, Nat.zero_le _, rfl, mb9, HL9.out, H6.out.2.1, H6.out.2.2.1, H6.out.1, Keep.refl _ _⟩
  case round =>
    obtain ⟨k, hk, rfl, HI⟩ := hrel
    obtain ⟨l', hl', ho', hd', hbx, hk'⟩ := HI.out
    have y2 := hbx.c.2.2
    by_cases hlt : k < L9
    · have hltz : (k : Int) < (L9 : Int) := by omega
      have hg : ∃ g, a6 = some ⟨g, 0, none⟩ := by
        rcases ho'.2 with ⟨h1, h0⟩ | ⟨g, cap', cur, hv', _⟩
        · omega
        · injection hv' with e1; exact ⟨g, e1⟩
      obtain ⟨g, rfl⟩ := hg
      obtain ⟨⟨x, e0⟩, f0, hs⟩ := ho'.spoil' hl' k hlt
      have hxb := HXB.out g rfl
      have HNX := Lib.hid (show ∀ v : Int, ∃ l'' : Bs, l''.length = L9 ∧ OwnBytes W5.heap.size (wr.setCell ⟨g, k, none⟩ (.int .u8 (IntKind.u8.wrap v))) (.slice (some ⟨g, 0, none⟩) L9 c6) l'' ∧ Duo w K6 (wr.setCell ⟨g, k, none⟩ (.int .u8 (IntKind.u8.wrap v))) p q d9 d9 ∧ BoxM (wr.setCell ⟨g, k, none⟩ (.int .u8 (IntKind.u8.wrap v))) w2.heap.size fr9 to9 (.slice (some ⟨g, 0, none⟩) L9 c6) ∧ Keep K1 w10 (wr.setCell ⟨g, k, none⟩ (.int .u8 (IntKind.u8.wrap v))) from fun v => by
        obtain ⟨l'', h1, h2⟩ := hs v
        have hc : Chg (fun j => j = g) wr (wr.setCell ⟨g, k, none⟩ (.int .u8 (IntKind.u8.wrap v))) := (Chg.refl (fun j => j = g) wr).setCell (p := ⟨g, k, none⟩) (.inl rfl) _
        refine ⟨l'', h1, h2, ?_, hc.heap hbx (fun e => hxb.2.2.2 e.symm), hk'.trans (hc.keep fun j hj hK => ?_)⟩
        · exact (hd'.write hc (fun j hj => by rw [hj]; exact ⟨hxb.1, hxb.2.1⟩) (fun _ => False) fun _ h => h.elim).narrow fun _ h => .inl h
        · have := HK1L.out j hK
          have := hxb.2.2.1
          omega)
      clear hl' ho' hd' hbx hk' hs hxb
      go_wp2
      go_roundw
      case rel => exact ⟨k + 1, by omega, by go_num, HNX.out _⟩
      case measure => simp [intOf]; omega
    · obtain rfl : k = L9 := by omega
      have HDD := Lib.hid (And.intro hd' hk')
      clear hl' ho' hd' hbx hk'
      go_wp2
      go_ret
      exact ⟨rfl, HDD.out.1.narrow fun j hj => HKK3.out j (HKK.out j hj), HK0.out.trans ((H6.out.2.2.2.trans HDD.out.2).mono HKK.out)⟩
end Go.Proofs.Ytbmebmkpjbgdoaa
