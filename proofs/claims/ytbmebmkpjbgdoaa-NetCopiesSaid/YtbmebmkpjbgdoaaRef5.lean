/- The document's net: Send. -/
import Derived.Test.YtbmebmkpjbgdoaaRef4
import Derived.Test.YtbmebmkpjbgdoaaTrueM
namespace Go.Proofs.Ytbmebmkpjbgdoaa
open Go.RowKit
theorem row_news1 (w : World) (x y : Int) (b : Bs) (u : Value) : ∀ (j : Nat) z, ([((⟨x, y, b⟩, u) : MV)].flatMap mc)[j]? = some z → (w.alloc (.cells #[.int .i64 x, .int .i64 y, u] 49)).cell? ((⟨w.heap.size, 0, none⟩ : Addr).add j) = some z := fun j z hj => by
  rw [Addr.add_lit, Nat.zero_add, World.cell?_alloc_new]
  simpa [mc] using hj
theorem row_one1 {x : MV} {K : Bks} {w : World} (h : BytesIn K w x.2 x.1.b) : ∀ z ∈ [x].flatMap mc, z.oneCell' = true := fun z hz => by
  simp [mc] at hz
  rcases hz with rfl | rfl | rfl
  · rfl
  · rfl
  · obtain ⟨_, _, e, _⟩ := h.form; rw [e]; rfl
/-- one message more, in a row of the call's own -/
theorem RefAt.push {w w2 w4 w5 : World} {R : Bks} {q : Nat} {d : Nt} {bv cv v4 v5 u : Value} {vs : List MV} {ps : List Pr} {m : Msg} (h : RefP w R q d bv cv vs ps) (hok : ({ d with bag := d.bag ++ [m] } : Nt).ok) (hq : q < w.heap.size) (hb2 : Below w.heap.size w w2) (hv4 : ∀ k, v4.ownBlock = some k → w.heap.size ≤ k) (hu : BytesIn (fun k => w.heap.size ≤ k) w2 u m.b) (hA : Below w2.heap.size w2 w4) (hn : ∀ k, v4.ownBlock = some k → ¬ u.ownBlock = some k)
    (ho5 : OwnMs w5 v5 (vs ++ [(m, u)])) (hg5 : w4.grownBy w5 v4.ownBlock) (hp5 : Placed w4 v4 v5) (hul : BytesIn (fun k => u.ownBlock = some k) w2 u m.b) : (w5.cell? ⟨q, 1, none⟩ = some bv ∧ w5.frozen? ⟨q, 1, none⟩ = false) ∧ RDoes w R q { d with bag := d.bag ++ [m] } (w5.setCell ⟨q, 1, none⟩ v5) := by
  have hb4 : Below w.heap.size w w4 := hb2.trans (hA.mono hb2.size)
  have hb5 : Below w.heap.size w w5 := hb4.grown hg5 hb4.size fun k hk => hv4 k hk
  have hlt5 := ho5.lt
  have hv5 : ∀ k, v5.ownBlock = some k → w.heap.size ≤ k := fun k hk => by
    rcases hp5 with e | e
    · exact hv4 k (e.symm.trans hk)
    · exact Nat.le_trans hb4.size (e k hk)
  have hP5 := h.below hb5
  have hbu : BytesIn (fun k => w.heap.size ≤ k ∧ u.ownBlock = some k) w2 u m.b := by
    rcases hul with ⟨e1, e2⟩ | ⟨ad, cap, e, hl, hc⟩
    · exact .inl ⟨e1, e2⟩
    · rcases hu with ⟨e1, e2⟩ | ⟨ad', cap', e', hl', hc'⟩
      · exact .inl ⟨e1, e2⟩
      · refine .inr ⟨ad, cap, e, hl, fun h0 => ?_⟩
        obtain ⟨b, off, e1, ⟨h1, h2⟩, h3⟩ := hc h0
        obtain ⟨b', off', e1', ⟨h1', h2'⟩, h3'⟩ := hc' h0
        rw [e'] at e
        injection e with ea
        injection ea with ea
        rw [e1, e1'] at ea
        injection ea with eb
        exact ⟨b, off, e1, ⟨h1, by rw [← eb]; exact h2', h2⟩, h3⟩
  have hub5 : BytesIn (fun k => w.heap.size ≤ k ∧ u.ownBlock = some k) w5 u m.b := hbu.chg (((Chg.of_below (S := fun k => v4.ownBlock = some k) hA (Nat.le_refl _)).grown hg5 fun k hk => .inl hk)) fun k hk hx => hn k hk hx.2
  have hltu : ∀ k, (w.heap.size ≤ k ∧ u.ownBlock = some k ∧ k < w5.heap.size) → w.heap.size ≤ k ∧ k < w5.heap.size := fun k hk => ⟨hk.1, hk.2.2⟩
  have hub6 : BytesIn (fun k => w.heap.size ≤ k ∧ u.ownBlock = some k ∧ k < w5.heap.size) w5 u m.b := by
    rcases hub5 with hx | ⟨ad, cap, e, hl, hc⟩
    · exact .inl hx
    · exact .inr ⟨ad, cap, e, hl, fun h0 => by
        obtain ⟨b, off, e1, ⟨h1, h2⟩, h3⟩ := hc h0
        exact ⟨b, off, e1, ⟨h1, h2.1, h2.2, h1⟩, h3⟩⟩
  obtain ⟨hx, hc⟩ := h.rowed (R' := fun k => (R k ∨ v5.ownBlock = some k) ∨ (w.heap.size ≤ k ∧ u.ownBlock = some k ∧ k < w5.heap.size)) (bag := d.bag ++ [m]) hb5 hq ho5 (by rw [List.map_append, h.bag]; rfl) (fun k hk => .inl (.inl hk)) (fun k hk => by
    rcases hk with (hk | hk) | hk
    · exact .inl hk
    · exact .inr ⟨hv5 k hk, hlt5 k hk⟩
    · exact .inr (hltu k hk)) (fun k hk => .inl (.inr hk)) (fun v hv => by
    rcases List.mem_append.1 hv with hv | hv
    · exact (hP5.byt v hv).wide fun k _ hk => .inl (.inl hk)
    · simp at hv
      subst hv
      exact hub6.wide fun k _ hk => .inr hk)
  refine ⟨⟨hP5.c1, hP5.fz 1⟩, _, ⟨hok, _, _, _, _, hx⟩, fun k hk => ?_, hc⟩
  rcases hk with (hk | hk) | hk
  · exact .inl hk
  · exact .inr (hv5 k hk)
  · exact .inr hk.1
/-- a row copied into the call's own memory -/
theorem refs_copied {w w2 w3 : World} {v3 : Value} {vs : List MV} (hb : Below w.heap.size w w2) (ho : OwnMs w3 v3 vs) (hg : (w2.alloc (.cells #[] 49)).grownBy w3 (Value.slice (some ⟨w2.heap.size, 0, none⟩) 0 0).ownBlock) (hp : Placed (w2.alloc (.cells #[] 49)) (.slice (some ⟨w2.heap.size, 0, none⟩) 0 0) v3) :
    OwnMs w3 v3 vs ∧ Below w.heap.size w w3 ∧ ∀ k, v3.ownBlock = some k → w.heap.size ≤ k := by
  have h1 := hb.alloc hb.size (.cells #[] 49)
  refine ⟨ho, h1.grown hg h1.size fun k hk => ?_, placed_new hp hb.size h1.size⟩
  have : w2.heap.size = k := Option.some.inj hk
  have := hb.size
  omega
/-- and bytes of the call's own beside it -/
theorem refs_bytes {w w3 w4 : World} {v3 v4 : Value} {vs : List MV} {l : Bs} (h : OwnMs w3 v3 vs ∧ Below w.heap.size w w3 ∧ ∀ k, v3.ownBlock = some k → w.heap.size ≤ k) (ho : OwnBytes w3.heap.size w4 v4 l) (hg : (w3.alloc (.cells #[] 5)).grownBy w4 (Value.slice (some ⟨w3.heap.size, 0, none⟩) 0 0).ownBlock) :
    OwnMs w4 v3 vs ∧ Below w.heap.size w w4 ∧ (∀ k, v3.ownBlock = some k → w.heap.size ≤ k) ∧ (∀ k, v3.ownBlock = some k → ¬ v4.ownBlock = some k) ∧ BytesIn (fun k => w.heap.size ≤ k) w4 v4 l ∧ BytesIn (fun k => v4.ownBlock = some k) w4 v4 l := by
  obtain ⟨h1, h2, h3⟩ := h
  have hc : Chg (fun k => k = w3.heap.size) w3 w4 := ((Chg.refl _ w3).alloc (.cells #[] 5)).grown hg fun k hk => .inl (Option.some.inj hk).symm
  have hlt := h1.lt
  refine ⟨h1.chg hc fun k hk e => by have := hlt k hk; omega, h2.trans (hc.below h2.size fun k hk => by have := h2.size; omega), h3, fun k hk h4 => ?_, ho.bytesIn.wide fun k _ hk => ?_, ho.bytesIn⟩
  · have := (ho.own k h4); have := hlt k hk; omega
  · have := ho.own k hk; have := h2.size; omega
set_option maxRecDepth 100000 in
set_option maxHeartbeats 2000000 in
theorem rsend_any {w : World} {R : Bks} {q : Nat} {d : Nt} (h : RefAt w R q d) (a b : Int) (l : Bs) (u : Value) (hu : BytesAt w u l) :
    Calls Try.prog 32 #[.pointer (some ⟨q, 0, none⟩), .int .i64 a, .int .i64 b, u] w fun e w' => e = .returned (.int .i64 (d.send a b l).1) ∧ RDoes w R q (d.send a b l).2 w' := by
  have hA := h
  obtain ⟨ho, bv, cv, vs, ps, h⟩ := h
  have hqw : q < w.heap.size := hA.q_lt
  have HST : Hid (∀ W, Below w.heap.size w W → RDoes w R q d W) := fun W hb => RDoes.still hA hb
  obtain ⟨ua, uc, rfl, _⟩ := hu.form
  cases hl : d.links a b
  · have hres : d.send a b l = (1, d) := by unfold Nt.send; rw [if_pos hl]
    rw [hres]
    have HL := Lib.hid (link_false d a b w h.c0 hl)
    clear h ho hA hl hres hu
    go_enter Try.func32, Try.ntmps32
    go_wp2_with (go_at_call 51; refine HL.out.mono ?_; rintro e w1 ⟨rfl, hb⟩; have HB := Lib.hid hb; clear hb)
    go_ret
    exact ⟨rfl, HST.out _ (HB.out.alloc HB.out.size _)⟩
  · have HL := Lib.hid (link_true d a b w h.c0 hl)
    have HC : ∀ W, Below w.heap.size w W → Calls Try.prog 52 #[.pointer (some ⟨q, 0, none⟩), .agg #[.int .i64 (min a b), .int .i64 (max a b)]] W fun e w' => e = .returned (.bool (d.cuts.getD (place a b) false)) ∧ Below W.heap.size W w' := fun W hb => by
      have := rcut_any (h.below hb) (min a b) (max a b)
      rw [h.cuts a b hl] at this
      exact this
    have hiso : d.isOpen a b = !(d.cuts.getD (place a b) false) := by unfold Nt.isOpen; rw [hl]; rfl
    generalize d.cuts.getD (place a b) false = B at HC hiso
    obtain ⟨lo, hlo⟩ : ∃ lo, min a b = lo := ⟨_, rfl⟩
    obtain ⟨hi, hhi⟩ : ∃ hi, max a b = hi := ⟨_, rfl⟩
    rw [hlo, hhi] at HL HC
    by_cases hlen : 16384 < l.length
    · have hres : d.send a b l = (7, d) := by unfold Nt.send; rw [if_neg (by simp [hl]), if_pos hlen]
      rw [hres]
      generalize l.length = L at hlen
      clear h ho hA hl hres hu HC hlo hhi hiso
      go_enter Try.func32, Try.ntmps32
      go_wp2_with (go_at_call 51; refine HL.out.mono ?_; rintro e w1 ⟨rfl, hb⟩; have HB := Lib.hid hb; clear hb)
      go_ret
      exact ⟨rfl, HST.out _ (HB.out.alloc HB.out.size _)⟩
    · cases B
      · have hop : d.isOpen a b = true := by rw [hiso]; rfl
        have HC := Lib.hid HC
        by_cases hf : 64 ≤ d.bag.length
        · have hres : d.send a b l = (3, d) := by unfold Nt.send; rw [if_neg (by simp [hl]), if_neg hlen, if_neg (by simp [hop]), if_pos hf]
          rw [hres]
          obtain ⟨sa, sc, rfl⟩ := h.row.form
          have hvl := h.len
          have HC1 : Hid (∀ W, Below w.heap.size w W → W.cell? ⟨q, 1, none⟩ = some (.slice sa d.bag.length sc)) := fun W hb => by rw [(h.below hb).c1, hvl]
          generalize l.length = L at hlen
          have hlen : L ≤ 16384 := by omega
          generalize d.bag.length = BL at hf HC1
          clear h ho hA hl hres hu hlo hhi hiso hop hvl
          go_enter Try.func32, Try.ntmps32
          go_wp2_with (first | (go_at_call 51; refine HL.out.mono ?_; rintro e w1 ⟨rfl, hb⟩; have HB := Lib.hid hb; clear hb) | (go_at_call 52; refine (HC.out _ (HB.out.alloc HB.out.size _)).mono ?_; rintro e w2 ⟨rfl, hb2⟩; have HB2 : Hid (Below w.heap.size w w2) := (HB.out.alloc HB.out.size _).trans (hb2.mono (Below.size (HB.out.alloc HB.out.size _))); have c1 := HC1.out w2 HB2.out; clear hb2))
          go_ret
          exact ⟨rfl, HST.out _ HB2.out⟩
        · have hres : d.send a b l = (0, { d with bag := d.bag ++ [⟨a, b, l⟩] }) := by unfold Nt.send; rw [if_neg (by simp [hl]), if_neg hlen, if_neg (by simp [hop]), if_neg hf]
          have hok : ({ d with bag := d.bag ++ [⟨a, b, l⟩] } : Nt).ok := by have := ho.send a b l; rw [hres] at this; exact this
          rw [hres]
          obtain ⟨sa, sc, rfl⟩ := h.row.form
          have hvl := h.len
          have HP := Lib.hid h
          have HOK := Lib.hid hok
          have HU := Lib.hid hu
          have HQ := Lib.hid hqw
          have HVL := Lib.hid hvl
          have HONE := Lib.hid h.oneCells
          have hbl : vs.length < 64 := by omega
          obtain ⟨BL, hBL⟩ : ∃ BL, vs.length = BL := ⟨_, rfl⟩
          have HBL := Lib.hid hBL
          have HC1 : Hid (∀ W, Below w.heap.size w W → W.cell? ⟨q, 1, none⟩ = some (.slice sa BL sc)) := fun W hb => by rw [(h.below hb).c1, hBL]
          rw [hBL] at hbl
          obtain ⟨L, hL⟩ : ∃ L, l.length = L := ⟨_, rfl⟩
          have HL2 := Lib.hid hL
          have HUL : Hid (BytesAt w (.slice ua L uc) l) := by rw [← hL]; exact hu
          rw [hL] at hlen ⊢
          have hlen : L ≤ 16384 := by omega
          clear h ho hA hl hres hu hlo hhi hiso hop hvl hf hok hBL hL
          have HFIN : Hid (∀ w4 a3 c3 v4 w5 v5, OwnMs w4 (.slice a3 BL c3) vs ∧ Below w.heap.size w w4 ∧ (∀ k, (Value.slice a3 BL c3).ownBlock = some k → w.heap.size ≤ k) ∧ (∀ k, (Value.slice a3 BL c3).ownBlock = some k → ¬ v4.ownBlock = some k) ∧ BytesIn (fun k => w.heap.size ≤ k) w4 v4 l ∧ BytesIn (fun k => v4.ownBlock = some k) w4 v4 l →
              OwnMs w5 v5 (vs ++ [(⟨a, b, l⟩, v4)]) → (w4.alloc (.cells #[.int .i64 a, .int .i64 b, v4] 49)).grownBy w5 (Value.slice a3 BL c3).ownBlock → Placed (w4.alloc (.cells #[.int .i64 a, .int .i64 b, v4] 49)) (Value.slice a3 BL c3) v5 →
              (w5.cell? ⟨q, 1, none⟩ = some (.slice sa BL sc) ∧ w5.frozen? ⟨q, 1, none⟩ = false) ∧ RDoes w R q { d with bag := d.bag ++ [⟨a, b, l⟩] } (w5.setCell ⟨q, 1, none⟩ v5)) := fun w4 a3 c3 v4 w5 v5 h4 ho5 hg5 hp5 => by
            obtain ⟨k1, k2, k3, k4, k5, k6⟩ := h4
            have := RefAt.push HP.out HOK.out HQ.out k2 k3 k5 (Go.Joins.below_alloc1 w4 (.cells #[.int .i64 a, .int .i64 b, v4] 49)) k4 ho5 hg5 hp5 k6
            rw [HBL.out] at this
            exact this
          go_enter Try.func32, Try.ntmps32
          go_wp2_with (first
            | (go_at_call 51; refine HL.out.mono ?_; rintro e w1 ⟨rfl, hb⟩; have HB := Lib.hid hb; clear hb)
            | (go_at_call 52; refine (HC.out _ (HB.out.alloc HB.out.size _)).mono ?_; rintro e w2 ⟨rfl, hb2⟩; have HB2 : Hid (Below w.heap.size w w2) := (HB.out.alloc HB.out.size _).trans (hb2.mono (Below.size (HB.out.alloc HB.out.size _))); have c1 := HC1.out w2 HB2.out; have c1a : ∀ o, (w2.alloc o).cell? ⟨q, 1, none⟩ = some (.slice sa BL sc) := (fun o => HC1.out _ (HB2.out.alloc HB2.out.size o)); clear hb2)
            | (at_builtin; refine wpList_append_row rfl _ _ rfl _ (.slice sa BL sc) [] vs (OwnMs.made w2) (by rw [← HBL.out]; exact (HP.out.below (HB2.out.alloc HB2.out.size _)).row) rfl rfl HONE.out (by rw [HBL.out]; simp; omega) ?_; intro v3 w3 hown3 hgrow3 hpl3; have H3 := Lib.hid (refs_copied HB2.out (by simpa using hown3) hgrow3 hpl3); obtain ⟨a3, c3, e3⟩ := hown3.form; rw [List.nil_append, HBL.out] at e3; subst e3; clear hown3 hgrow3 hpl3)
            | (at_builtin; refine wpList_append_place rfl _ _ rfl w3.heap.size _ _ [] l rfl rfl (OwnBytes.made w3 _ (Nat.le_refl _)) (BytesIn.below HUL.out (H3.out.2.1.alloc H3.out.2.1.size _) (Nat.le_refl _)) (by rw [HL2.out]; simp; omega) (Go.Joins.below_alloc1 w3 _).size ?_; intro v4 w4 hown4 hgrow4 _; have H4 := Lib.hid (refs_bytes H3.out (by simpa using hown4) hgrow4); obtain ⟨a4, c4, e4⟩ := hown4.form; rw [List.nil_append, HL2.out] at e4; subst e4; clear hown4 hgrow4)
            | (at_builtin; refine wpList_append_ms rfl _ _ rfl _ vs [((⟨a, b, l⟩, .slice a4 L c4) : MV)] (H4.out.1.chg ((Chg.refl (fun _ => False) w4).alloc _) fun _ _ h => h) ⟨w4.heap.size, 0, none⟩ 1 1 rfl rfl rfl (row_news1 w4 a b l _) (row_one1 H4.out.2.2.2.2.1) (by rw [HBL.out]; simp; omega) ?_; intro v5 w5 hown5 hgrow5 hpl5; obtain ⟨⟨c15, f15⟩, hfin⟩ := HFIN.out _ _ _ _ _ _ H4.out hown5 hgrow5 hpl5; have HX := Lib.hid hfin; obtain ⟨a5, c5, e5⟩ := hown5.form; rw [List.length_append, HBL.out, List.length_singleton] at e5; subst e5; clear hown5 hgrow5 hpl5 hfin))
          go_ret
          exact ⟨rfl, HX.out⟩
      · have hop : d.isOpen a b = false := by rw [hiso]; rfl
        have hres : d.send a b l = (6, d) := by unfold Nt.send; rw [if_neg (by simp [hl]), if_neg hlen, if_pos hop]
        rw [hres]
        have HC := Lib.hid HC
        generalize l.length = L at hlen
        have hlen : L ≤ 16384 := by omega
        clear h ho hA hl hres hu hlo hhi hiso hop
        go_enter Try.func32, Try.ntmps32
        go_wp2_with (first | (go_at_call 51; refine HL.out.mono ?_; rintro e w1 ⟨rfl, hb⟩; have HB := Lib.hid hb; clear hb) | (go_at_call 52; refine (HC.out _ (HB.out.alloc HB.out.size _)).mono ?_; rintro e w2 ⟨rfl, hb2⟩; have HB2 : Hid (Below w.heap.size w w2) := (HB.out.alloc HB.out.size _).trans (hb2.mono (Below.size (HB.out.alloc HB.out.size _))); clear hb2))
        go_ret
        exact ⟨rfl, HST.out _ HB2.out⟩
end Go.Proofs.Ytbmebmkpjbgdoaa
