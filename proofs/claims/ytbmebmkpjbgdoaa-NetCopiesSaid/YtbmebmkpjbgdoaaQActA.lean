/- act: At. -/
import Derived.Test.YtbmebmkpjbgdoaaQActT
import Derived.Test.YtbmebmkpjbgdoaaCount
namespace Go.Proofs.Ytbmebmkpjbgdoaa
open Go.RowKit
/-- a message's box -/
def BoxM (w : World) (g : Nat) (fr to : Int) (u : Value) : Prop := w.heap[g]? = some (.cells #[.int .i64 fr, .int .i64 to, u] 49 (0, 0))
theorem BoxM.new (w : World) (fr to : Int) (u : Value) : BoxM (w.alloc (.cells #[.int .i64 fr, .int .i64 to, u] 49)) w.heap.size fr to u := heap_alloc_new _ _
theorem BoxM.c {w : World} {g : Nat} {fr to : Int} {u : Value} (h : BoxM w g fr to u) : w.cell? ⟨g, 0, none⟩ = some (.int .i64 fr) ∧ w.cell? ⟨g, 1, none⟩ = some (.int .i64 to) ∧ w.cell? ⟨g, 2, none⟩ = some u := by
  refine ⟨?_, ?_, ?_⟩ <;> (rw [Go.Joins.cell_of_block h]; rfl)
theorem BoxM.fz {w : World} {g : Nat} {fr to : Int} {u : Value} (h : BoxM w g fr to u) (j : Nat) : w.frozen? ⟨g, j, none⟩ = false := by unfold BoxM at h; simp [World.frozen?, h]
theorem BoxM.lt {w : World} {g : Nat} {fr to : Int} {u : Value} (h : BoxM w g fr to u) : g < w.heap.size := lt_of_block h
set_option maxRecDepth 100000 in
set_option maxHeartbeats 4000000 in
theorem act_at {w : Fr} {wi : World} {K : Bks} {p q : Nat} {d : Nt} (h : Duo w K wi p q d d) (a b i : Int) (u : Value) :
    Calls Try.prog 15 #[.pointer (some ⟨p, 0, none⟩), .pointer (some ⟨q, 0, none⟩), .agg #[.int .i64 8, .int .i64 a, .int .i64 b, .int .i64 i, u]] wi (ActDoes w K wi p q d) := by
  obtain ⟨m, r, hm⟩ : ∃ m r, d.at i = (m, r) := ⟨_, _, rfl⟩
  obtain ⟨W1, hW1⟩ : ∃ W1, W1 = Box wi 8 a b i u := ⟨_, rfl⟩
  have hD := h.box 8 a b i u
  have HC : Hid (∀ W, Keep (fun k => K k ∨ k = wi.heap.size) W1 W → W.cell? ⟨wi.heap.size, 0, none⟩ = some (.int .i64 8) ∧ W.cell? ⟨wi.heap.size, 1, none⟩ = some (.int .i64 a) ∧ W.cell? ⟨wi.heap.size, 2, none⟩ = some (.int .i64 b) ∧ W.cell? ⟨wi.heap.size, 3, none⟩ = some (.int .i64 i) ∧ W.cell? ⟨wi.heap.size, 4, none⟩ = some u) := fun W hk => by rw [hW1] at hk; exact Box.cells hk
  have HK0 : Hid (Keep K wi W1) := by rw [hW1]; exact Keep.of_below (Go.Joins.below_alloc1 wi _)
  rw [← hW1] at hD
  unfold Box at hW1
  generalize hK1 : (fun k => K k ∨ k = wi.heap.size) = K1 at *
  have HKK : Hid (∀ k, K k → K1 k) := fun k hk => by rw [← hK1]; exact .inl hk
  have HNT := Lib.hid (show Calls Try.prog 17 #[.pointer (some ⟨p, 0, none⟩), .int .i64 i] W1 (NTells w K1 W1 p q m r d d) by have := hD.netTell (fun J hJ => hJ.tell i); rwa [hm] at this)
  have HRT := Lib.hid (show ∀ K' W, Duo w K' W p q d d → Calls Try.prog 33 #[.pointer (some ⟨q, 0, none⟩), .int .i64 i] W (DTells w K' W p q m r d d) from fun K' W hd => by have := hd.refTell (fun R hR => rat_tells hR i); rwa [hm] at this)
  have HK1L : Hid (∀ k, K1 k → k < W1.heap.size) := hD.lt
  have HWS := Lib.hid hD.below.size
  clear hK1 h hD hm
  obtain ⟨fr, to, mb⟩ := m
  obtain ⟨L, hL⟩ : ∃ L, mb.length = L := ⟨_, rfl⟩
  have HL := Lib.hid hL
  unfold NTells at HNT
  unfold DTells at HRT
  dsimp only at HNT HRT
  rw [hL] at HNT HRT
  clear hL
  go_enter Try.func15, Try.ntmps15
  go_wp2_with fail
  rw [← hW1]
  clear hW1
  refine HNT.out.mono ?_
  rintro e w2 ⟨a2, c2, rfl, ho2, hd2, hk2⟩
  generalize hX : (fun k => K1 k ∨ (Value.slice a2 L c2).ownBlock = some k) = K2 at hd2
  have HX := Lib.hid (show (∀ k, (Value.slice a2 L c2).ownBlock = some k → K2 k) ∧ (∀ k, K1 k → K2 k) from ⟨fun k hk => by rw [← hX]; exact .inr hk, fun k hk => by rw [← hX]; exact .inl hk⟩)
  have hd3 := hd2.write (C := fun _ => False) (Chg.of_below (Go.Joins.below_alloc1 w2 (.cells #[.int .i64 fr, .int .i64 to, .slice a2 L c2] 49)) (Nat.le_refl _)) (fun _ h => h.elim) (fun k => k = w2.heap.size) fun k hk => ⟨by omega, by rw [World.size_alloc]; omega⟩
  generalize hK3 : (fun k => K2 k ∨ k = w2.heap.size) = K3 at hd3
  have HX3 := Lib.hid (show (∀ k, K2 k → K3 k) ∧ K3 w2.heap.size from ⟨fun k hk => by rw [← hK3]; exact .inl hk, by rw [← hK3]; exact .inr rfl⟩)
  have HB3 := Lib.hid (BoxM.new w2 fr to (.slice a2 L c2))
  have HO3 := Lib.hid (ho2.alloc (.cells #[.int .i64 fr, .int .i64 to, .slice a2 L c2] 49))
  have HKD := Lib.hid (show Keep K1 W1 (w2.alloc (.cells #[.int .i64 fr, .int .i64 to, .slice a2 L c2] 49)) from hk2.trans (Keep.of_below (Go.Joins.below_alloc1 w2 _)))
  have c3a := fun o => (HC.out (w2.alloc o) (hk2.trans (Keep.of_below (Go.Joins.below_alloc1 w2 _)))).2.2.2.1
  have HD3 := Lib.hid hd3
  have HOL := Lib.hid (show ∀ k, (Value.slice a2 L c2).ownBlock = some k → W1.heap.size ≤ k ∧ k < w2.heap.size from fun k hk => ho2.lt k hk)
  clear hX hK3 hd2 hk2 ho2 hd3
  go_wp2_with fail
  refine (HRT.out K3 _ HD3.out).mono ?_
  rintro e w4 ⟨b4, cb4, rfl, hb4, hd4, hk4⟩
  have HD5 := Lib.hid (fun o => hd4.still (Go.Joins.below_alloc1 w4 o))
  have HK5 := Lib.hid (fun o => hk4.trans (Keep.of_below (I := K3) (Go.Joins.below_alloc1 w4 o)))
  have HB5 := Lib.hid (fun o => BytesIn.below hb4 (Go.Joins.below_alloc1 w4 o) (Nat.le_refl _))
  have x5 := fun o => (show BoxM (w4.alloc o) w2.heap.size fr to (.slice a2 L c2) from keep_block' (HK5.out o) HX3.out.2 HB3.out)
  have xc := fun o => (x5 o).c
  simp only [forall_and] at xc
  obtain ⟨x0, x1, x2⟩ := xc
  have c0a := fun o => (HC.out (w4.alloc o) (HKD.out.trans ((HK5.out o).mono fun k hk => HX3.out.1 k (HX.out.2 k hk)))).1
  have HS := Lib.hid (show ∀ o, Calls Try.prog 35 #[.agg #[.int .i64 fr, .int .i64 to, .slice a2 L c2], .agg #[.int .i64 fr, .int .i64 to, .slice b4 L cb4]] (w4.alloc o) fun e w' => e = .returned (.bool true) ∧ Below (w4.alloc o).heap.size (w4.alloc o) w' from fun o => by
    have h1 := (OwnBytes.keep HO3.out (HK5.out o) fun k hk => HX3.out.1 k (HX.out.1 k hk)).at
    have := same_any ⟨fr, to, mb⟩ ⟨fr, to, mb⟩ (.slice a2 L c2) (.slice b4 L cb4) (w4.alloc o) h1 (HB5.out o)
    rwa [show Msg.same ⟨fr, to, mb⟩ ⟨fr, to, mb⟩ = true by simp [Msg.same]] at this)
  have kr : (r == r) = true := by simp
  clear hb4 hd4 hk4 x5 c3a
  go_wp2_with fail
  refine (HS.out _).mono ?_
  rintro e w6 ⟨rfl, hb6⟩
  have HK6 := Lib.hid ((HK5.out (.cells #[.int .i64 fr, .int .i64 to, .slice b4 L cb4] 49)).trans (Keep.of_below (I := K3) hb6))
  have H6 := Lib.hid (show BoxM w6 w2.heap.size fr to (.slice a2 L c2) ∧ OwnBytes W1.heap.size w6 (.slice a2 L c2) mb ∧ Duo w K3 w6 p q d d ∧ Keep K1 W1 w6 from
    ⟨keep_block' HK6.out HX3.out.2 HB3.out, OwnBytes.keep HO3.out HK6.out fun k hk => HX3.out.1 k (HX.out.1 k hk), (HD5.out _).still hb6, HKD.out.trans (HK6.out.mono fun k hk => HX3.out.1 k (HX.out.2 k hk))⟩)
  have HXB := Lib.hid (show ∀ k, (Value.slice a2 L c2).ownBlock = some k → K3 k ∧ w.heap.size ≤ k ∧ W1.heap.size ≤ k ∧ k ≠ w2.heap.size from fun k hk => by
    have := HOL.out k hk
    have := HWS.out
    exact ⟨HX3.out.1 k (HX.out.1 k hk), by omega, by omega, by omega⟩)
  have HKK3 := Lib.hid (show ∀ k, K1 k → K3 k from fun k hk => HX3.out.1 k (HX.out.2 k hk))
  clear hb6 x0 x1 x2 c0a
  have hsl := H6.out.1.c
  have G10L := Lib.hid H6.out.1.lt
  have hL9 : L ≤ 9223372036854775807 := by have := OwnBytes.at H6.out.2.1; rw [← HL.out]; exact BytesIn.length_le this
  obtain ⟨y0, y1, y2⟩ := hsl
  clear y0 y1
  go_wp2
  clear y2
  go_loopw [15] (fun i wr => ∃ k : Nat, k ≤ L ∧ i = .int .i64 (k : Nat) ∧ Hid (∃ l' : Bs, l'.length = L ∧ OwnBytes W1.heap.size wr (.slice a2 L c2) l' ∧ Duo w K3 wr p q d d ∧ BoxM wr w2.heap.size fr to (.slice a2 L c2) ∧ Keep K1 w6 wr)) (fun i _ => L - (intOf i).toNat)
  case atStart => exact ⟨0, Nat.zero_le _, rfl, mb, HL.out, H6.out.2.1, H6.out.2.2.1, H6.out.1, Keep.refl _ _⟩
  case round =>
    obtain ⟨k, hk, rfl, HI⟩ := hrel
    obtain ⟨l', hl', ho', hd', hbx, hk'⟩ := HI.out
    have y2 := hbx.c.2.2
    by_cases hlt : k < L
    · have hltz : (k : Int) < (L : Int) := by omega
      have hg : ∃ g, a2 = some ⟨g, 0, none⟩ := by
        rcases ho'.2 with ⟨h1, h0⟩ | ⟨g, cap', cur, hv', _⟩
        · omega
        · injection hv' with e1; exact ⟨g, e1⟩
      obtain ⟨g, rfl⟩ := hg
      obtain ⟨⟨x, e0⟩, f0, hs⟩ := ho'.spoil' hl' k hlt
      have hxb := HXB.out g rfl
      have HNX := Lib.hid (show ∀ v : Int, ∃ l'' : Bs, l''.length = L ∧ OwnBytes W1.heap.size (wr.setCell ⟨g, k, none⟩ (.int .u8 (IntKind.u8.wrap v))) (.slice (some ⟨g, 0, none⟩) L c2) l'' ∧ Duo w K3 (wr.setCell ⟨g, k, none⟩ (.int .u8 (IntKind.u8.wrap v))) p q d d ∧ BoxM (wr.setCell ⟨g, k, none⟩ (.int .u8 (IntKind.u8.wrap v))) w2.heap.size fr to (.slice (some ⟨g, 0, none⟩) L c2) ∧ Keep K1 w6 (wr.setCell ⟨g, k, none⟩ (.int .u8 (IntKind.u8.wrap v))) from fun v => by
        obtain ⟨l'', h1, h2⟩ := hs v
        have hc : Chg (fun j => j = g) wr (wr.setCell ⟨g, k, none⟩ (.int .u8 (IntKind.u8.wrap v))) := (Chg.refl (fun j => j = g) wr).setCell (p := ⟨g, k, none⟩) (.inl rfl) _
        refine ⟨l'', h1, h2, ?_, hc.heap hbx (fun e => hxb.2.2.2 e.symm), hk'.trans (hc.keep fun j hj hK => ?_)⟩
        · exact (hd'.write hc (fun j hj => by rw [hj]; exact ⟨hxb.1, hxb.2.1⟩) (fun _ => False) fun _ h => h.elim).narrow fun _ h => .inl h
        · have := HK1L.out j hK
          have := hxb.2.2.1
          omega)
      clear hl' ho' hd' hbx hk' hs hxb
      go_wp2
      go_roundw
      case rel => exact ⟨k + 1, by omega, by go_num, HNX.out _⟩
      case measure => simp [intOf]; omega
    · obtain rfl : k = L := by omega
      have HDD := Lib.hid (And.intro hd' hk')
      clear hl' ho' hd' hbx hk'
      go_wp2
      go_ret
      exact ⟨rfl, HDD.out.1.narrow fun j hj => HKK3.out j (HKK.out j hj), HK0.out.trans ((H6.out.2.2.2.trans HDD.out.2).mono HKK.out)⟩
end Go.Proofs.Ytbmebmkpjbgdoaa
