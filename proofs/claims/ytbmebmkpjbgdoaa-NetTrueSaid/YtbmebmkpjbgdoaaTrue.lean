/- The law NetTrue. -/
import Derived.Test.YtbmebmkpjbgdoaaTrueM
import Derived.Test.YtbmebmkpjbgdoaaAwake
import Derived.Deep.RegionHeld3
namespace Go.Proofs.Ytbmebmkpjbgdoaa
open Go.RowKit
theorem wrap_small64 {z : Int} (h0 : -9223372036854775808 ≤ z) (h1 : z ≤ 9223372036854775807) : IntKind.i64.wrap z = z := by
  simp [IntKind.wrap, IntKind.bits, IntKind.signed]
  omega
/-- between two acts -/
def TrueAt (w wr : World) (p : Nat) (d : Nt) (s c : Value) (vs us : List MV) : Prop := ∃ J K, One w J wr p d ∧ Rows2 w wr J K s c vs us
theorem TrueAt.box {w wr : World} {p : Nat} {d : Nt} {s c : Value} {vs us : List MV} (h : TrueAt w wr p d s c vs us) (o : Obj) : ∃ J K, One w J (wr.alloc o) p d ∧ Rows2 w (wr.alloc o) J K s c vs us ∧ J wr.heap.size ∧ ¬ K wr.heap.size ∧ s.ownBlock ≠ some wr.heap.size ∧ c.ownBlock ≠ some wr.heap.size := by
  obtain ⟨J, K, h1, h2⟩ := h
  have hJ := h1.lt
  have hb := Go.Joins.below_alloc1 wr o
  refine ⟨fun k => J k ∨ k = wr.heap.size, K, h1.more hb (fun k => k = wr.heap.size) fun k hk => by rw [World.size_alloc]; omega, (h2.keep (Keep.of_below hb)).wide (fun k hk => .inl hk) (fun _ hk => hk) (fun k hk => .inl (h2.kj k hk)) (fun k hk hn => absurd hk hn), .inr rfl, fun hk => by have := hJ _ (h2.kj _ hk); omega, fun e => by have := hJ _ (h2.sJ _ e).1; omega, fun e => by have := hJ _ (h2.cJ _ e).1; omega⟩
theorem row_news (w : World) (x y : Int) (u : Value) : ∀ (j : Nat) z, ([((⟨x, y, []⟩, u) : MV)].flatMap mc)[j]? = some z → (w.alloc (.cells #[.int .i64 x, .int .i64 y, u] 49)).cell? ((⟨w.heap.size, 0, none⟩ : Addr).add j) = some z := fun j z hj => by
  rw [Addr.add_lit, Nat.zero_add, World.cell?_alloc_new]
  simpa [mc] using hj
theorem row_one {x : MV} {K : Bks} {w : World} (h : BytesIn K w x.2 x.1.b) : ∀ z ∈ [x].flatMap mc, z.oneCell' = true := fun z hz => by
  simp [mc] at hz
  rcases hz with rfl | rfl | rfl
  · rfl
  · rfl
  · obtain ⟨_, _, e, _⟩ := h.form; rw [e]; rfl
/-- an act's box -/
def actBox (q : AV) (ua : Option Addr) (uc : Nat) : Obj := .cells #[.int .i64 q.o, .int .i64 q.x, .int .i64 q.y, .int .i64 q.i, .slice ua q.b.length uc] 33
theorem box_cells {W : World} {b : Nat} {q : AV} {ua : Option Addr} {uc : Nat} (h : W.heap[b]? = some (actBox q ua uc)) : (W.cell? ⟨b, 0, none⟩ = some (.int .i64 q.o) ∧ W.cell? ⟨b, 1, none⟩ = some (.int .i64 q.x) ∧ W.cell? ⟨b, 2, none⟩ = some (.int .i64 q.y)) ∧ W.cell? ⟨b, 3, none⟩ = some (.int .i64 q.i) ∧ W.cell? ⟨b, 4, none⟩ = some (.slice ua q.b.length uc) := by
  unfold actBox at h
  refine ⟨⟨?_, ?_, ?_⟩, ?_, ?_⟩ <;> rw [Go.Joins.cell_of_block h] <;> rfl
theorem keep_block {I : Bks} {w W : World} {b : Nat} {o : Obj} (hk : Keep I w W) (hI : I b) (h : w.heap[b]? = some o) : W.heap[b]? = some o := by rw [hk.2 b hI (lt_of_block h)]; exact h
/-- where a round may end -/
def Ends (w : World) (p L : Nat) (vn un : Nat) (s c : Value) (W : World) : Prop := ∃ d vs us, TrueAt w W p d s c vs us ∧ Sent d (vs.map (·.1)) (us.map (·.1)) ∧ vs.length = vn ∧ us.length = un ∧ d.bag.length = L
theorem Ends.len {w W : World} {p L vn un : Nat} {s c : Value} (h : Ends w p L vn un s c W) : (Calls Try.prog 21 #[.pointer (some ⟨p, 0, none⟩)] W fun e w' => e = .returned (.int .i64 (L : Nat)) ∧ W = w') ∧ L ≤ 64 := by
  obtain ⟨d, vs, us, ⟨J, K, h1, h2⟩, h3, h4, h5, rfl⟩ := h
  exact ⟨h1.len, h1.ok.len⟩

set_option maxRecDepth 100000 in
set_option maxHeartbeats 4000000 in
theorem true_any (nodes : Int) (hnodes : -9223372036854775808 ≤ nodes ∧ nodes ≤ 9223372036854775807) (v : Value) (l : List AV) (w : World) (hp : ActsAt w v l) :
    Calls Try.prog 5 #[.int .i64 nodes, v] w fun e w' => e = .returned (.bool true) ∧ Below w.heap.size w w' := by
  have HX : Hid (∀ W, Below w.heap.size w W → Calls Try.prog 9 #[] W fun e w' => e = .returned (.bool true) ∧ Below w.heap.size w w') := fun W hb => (awake_any W).mono fun e w' h => ⟨h.1, hb.trans (h.2.mono hb.size)⟩
  have HMANY : Hid (∀ W, Below w.heap.size w W → Calls Try.prog 8 #[v] W fun e w' => e = .returned (.bool (decide (600 < countTo l l.length))) ∧ Below W.heap.size W w') := fun W hb => many_any v l W (hp.below hb)
  have HP := Lib.hid hp
  obtain ⟨a, cap, rfl, hlen, hlc, hn, _⟩ := hp
  rw [maxLen_eq] at hlen
  by_cases hr : 1 ≤ nodes ∧ nodes ≤ 15
  · obtain ⟨n, rfl⟩ := Int.eq_ofNat_of_zero_le (show 0 ≤ nodes by omega)
    have HNEW := Lib.hid (new_yes n w (by omega))
    clear hn hlc hnodes hr
    cases hmany : decide (600 < countTo l l.length)
    · rw [hmany] at HMANY
      have hc600 : l.length ≤ 600 := by
        have h := of_decide_eq_false hmany
        unfold countTo at h
        omega
      clear hmany
      go_enter Try.func5, Try.ntmps5
      go_wp2_with fail
      refine HNEW.out.mono ?_
      rintro e w1 ⟨p, rfl, hf⟩
      have H1 := Lib.hid (One.of_fresh hf)
      clear hf
      go_wp2_with fail
      refine (HMANY.out _ H1.out.below).mono ?_
      rintro e w2 ⟨rfl, hb2⟩
      have HS : Hid (TrueAt w w2 p (Nt.new n) (.slice none 0 0) (.slice none 0 0) [] []) := by
        have h2 := (H1.out.still hb2).more (Below.refl _ w2) (fun _ => False) fun _ h => h.elim
        obtain ⟨O, I, g1, g2, g3, g4⟩ := H1.out.still hb2
        refine ⟨fun k => k < w.heap.size, fun k => k < w.heap.size, ⟨O, I, g1, fun k hk => ⟨fun hj => by have := (g2 k hk).2; omega, (g2 k hk).2⟩, fun k hk => Nat.lt_of_lt_of_le hk g4.size, g4⟩, ?_⟩
        exact ⟨World.ownsRow_nil _ _ _ _, World.ownsRow_nil _ _ _ _, fun _ h => h, fun k hk => (by simp [Value.ownBlock] at hk), fun k hk => (by simp [Value.ownBlock] at hk), fun k hk => (by simp [Value.ownBlock] at hk), fun x hx => (by cases hx), fun x hx => (by cases hx), fun _ h => h⟩
      clear hb2 H1
      go_wp2_with fail
      go_loopw [7, 8, 9] (fun s c i wr => ∃ (k vn un L : Nat) (sa ca : Option Addr) (sc cc : Nat), k ≤ l.length ∧ i = .int .i64 (k : Nat) ∧ s = .slice sa vn sc ∧ c = .slice ca un cc ∧ vn ≤ k ∧ un ≤ k ∧ Hid (Ends w p L vn un (.slice sa vn sc) (.slice ca un cc) wr)) (fun _ _ i _ => l.length - (intOf i).toNat)
      case atStart => exact ⟨0, 0, 0, _, none, none, 0, 0, Nat.zero_le _, rfl, rfl, rfl, Nat.le_refl _, Nat.le_refl _, Nt.new n, [], [], HS.out, Sent.new n, rfl, rfl, rfl⟩
      case round =>
        obtain ⟨k, vn, un, L, sa, ca, sc, cc, hk, rfl, rfl, rfl, hvn, hun, HW⟩ := hrel
        by_cases hlt : k < l.length
        · obtain ⟨d, vs, us, hTA, hSent, hvl, hul, hdl⟩ := HW.out
          obtain ⟨J0, K0, hone0, hrows0⟩ := id hTA
          have hbw := hone0.below
          obtain ⟨b, off, hab, hb, hc⟩ := (by obtain ⟨a', cap', e1, _, _, _, hc⟩ := HP.out; cases e1; exact hc (by omega) : ∃ b off, a = some ⟨b, off, none⟩ ∧ b < w.heap.size ∧ ∀ (j : Nat) q, l[j]? = some q → q.ok ∧ ∃ u, BytesAt w u q.b ∧ ∀ r, r < 5 → w.cell? ⟨b, off + j * 5 + r, none⟩ = (q.cells u)[r]?)
          subst hab
          obtain ⟨q, hqk⟩ : ∃ q, l[k]? = some q := ⟨_, List.getElem?_eq_getElem hlt⟩
          obtain ⟨hok, u, hu, hr⟩ := hc k q hqk
          obtain ⟨ua, uc, rfl, _⟩ := hu.form
          have e0 : wr.cell? ⟨b, off + k * 5, none⟩ = some (.int .i64 q.o) := by rw [hbw.cell (show (⟨b, off + k * 5, none⟩ : Addr).block < _ from hb)]; exact hr 0 (by omega)
          have e1 : wr.cell? ⟨b, off + k * 5 + 1, none⟩ = some (.int .i64 q.x) := by rw [hbw.cell (show (⟨b, off + k * 5 + 1, none⟩ : Addr).block < _ from hb)]; exact hr 1 (by omega)
          have e2 : wr.cell? ⟨b, off + k * 5 + 2, none⟩ = some (.int .i64 q.y) := by rw [hbw.cell (show (⟨b, off + k * 5 + 2, none⟩ : Addr).block < _ from hb)]; exact hr 2 (by omega)
          have e3 : wr.cell? ⟨b, off + k * 5 + 3, none⟩ = some (.int .i64 q.i) := by rw [hbw.cell (show (⟨b, off + k * 5 + 3, none⟩ : Addr).block < _ from hb)]; exact hr 3 (by omega)
          have e4 : wr.cell? ⟨b, off + k * 5 + 4, none⟩ = some (.slice ua q.b.length uc) := by rw [hbw.cell (show (⟨b, off + k * 5 + 4, none⟩ : Addr).block < _ from hb)]; exact hr 4 (by omega)
          obtain ⟨J, K, h1, h2, hJB, hKB, hsB, hcB⟩ := hTA.box (actBox q ua uc)
          have hbx : (wr.alloc (actBox q ua uc)).heap[wr.heap.size]? = some (actBox q ua uc) := heap_alloc_new _ _
          obtain ⟨wb, hwb⟩ : ∃ wb, wb = wr.alloc (actBox q ua uc) := ⟨_, rfl⟩
          rw [← hwb] at h1 h2 hbx
          have hlenC := h1.len
          rw [hdl] at hlenC
          have HLEN := Lib.hid hlenC
          have huB : BytesIn K wb (.slice ua q.b.length uc) q.b := by
            have hu2 := hu.below hone0.below (Nat.le_refl _)
            have := hu.wide (J := fun k => k < w.heap.size) (fun k hk _ => hk)
            exact ((this.below (B := w.heap.size) (w' := wb) (h1.below) (Nat.le_refl _))).wide fun k _ hk => h2.low k hk
          have HU := Lib.hid huB
          have H1 := Lib.hid h1
          have H2 := Lib.hid h2
          have HS := Lib.hid hSent
          have HBX := Lib.hid hbx
          have HB5 := Lib.hid (And.intro hJB (And.intro hKB (And.intro hsB hcB)))
          obtain ⟨⟨b0, b1, b2⟩, b3, b4⟩ := box_cells hbx
          have HDL := Lib.hid (And.intro hvl (And.intro hul hdl))
          unfold actBox at hwb
          clear hTA hSent hone0 hrows0 hbw hc hqk hu hr h1 h2 hJB hKB hsB hcB hlenC huB hbx HW hvl hul hdl HMANY
          obtain ⟨Z, hZ⟩ : ∃ Z, q.b.length = Z := ⟨_, rfl⟩
          have HZ := Lib.hid hZ
          rw [hZ] at e4 hwb b4
          clear hZ
          by_cases ho : q.o = 0
          · rw [ho] at e0 hwb b0
            go_wp2_with fail
            rw [← hwb]
            clear hwb
            refine HLEN.out.mono ?_
            rintro e wl ⟨rfl, hwl⟩
            subst hwl

            go_wp2_with fail
            have hsend := H1.out.send q.x q.y q.b (.slice ua q.b.length uc) HU.out.at
            rw [HZ.out] at hsend
            refine hsend.mono ?_
            rintro e w2 ⟨rfl, h3, k3⟩
            obtain ⟨R, hR⟩ : ∃ R, (d.send q.x q.y q.b).1 = R := ⟨_, rfl⟩
            have h4 := H2.out.keep k3
            have hu2 := HU.out.keep k3 H2.out.kj
            rw [hR]
            by_cases hR0 : R = 0
            · subst hR0
              obtain ⟨hok, hl64⟩ := send_ok hR
              rw [hok] at h3
              obtain ⟨⟨d0, d1, d2⟩, d3, d4⟩ := box_cells (keep_block k3 HB5.out.1 HBX.out)
              have HSD := Lib.hid (HS.out.sent ⟨q.x, q.y, q.b⟩)
              rw [HZ.out] at d4 hu2
              have HOWN : Hid (∀ o, OwnMs (w2.alloc o) (Value.slice sa vn sc) vs) := fun o => h4.rs.chg ((Chg.refl (fun _ => False) w2).alloc o) fun _ _ h => h
              have HNEWS : Hid (∀ (j : Nat) z, ([((⟨q.x, q.y, q.b⟩, .slice ua Z uc) : MV)].flatMap mc)[j]? = some z → (w2.alloc (.cells #[.int .i64 q.x, .int .i64 q.y, (.slice ua Z uc)] 49)).cell? ((⟨w2.heap.size, 0, none⟩ : Addr).add j) = some z) := row_news w2 q.x q.y (.slice ua Z uc)
              have HONE : Hid (∀ z ∈ [((⟨q.x, q.y, q.b⟩, .slice ua Z uc) : MV)].flatMap mc, z.oneCell' = true) := row_one hu2
              have HSM : Hid (vs.length + [((⟨q.x, q.y, q.b⟩, .slice ua Z uc) : MV)].length ≤ 1000000) := by
                unfold Hid
                simp only [List.length_singleton]
                have := HDL.out.1
                omega
              have HPUSH : Hid (∀ v2 w4, OwnMs w4 v2 (vs ++ [(⟨q.x, q.y, q.b⟩, .slice ua Z uc)]) → (w2.alloc (.cells #[.int .i64 q.x, .int .i64 q.y, (.slice ua Z uc)] 49)).grownBy w4 (Value.slice sa vn sc).ownBlock → Placed (w2.alloc (.cells #[.int .i64 q.x, .int .i64 q.y, (.slice ua Z uc)] 49)) (Value.slice sa vn sc) v2 → _) := fun v2 w4 z1 z2 z3 => h4.push h3 hu2 (Go.Joins.below_alloc1 w2 _) z1 z2 z3
              have HLB : Hid (d.bag.length = L) := HDL.out.2.2
              clear e0 e1 e2 e3 e4 b0 b1 b2 b3 b4 h3 k3 hR hok h4 hu2 hsend
              go_wp2_with (at_builtin; refine wpList_append_ms rfl _ _ rfl _ vs [((⟨q.x, q.y, q.b⟩, .slice ua Z uc) : MV)] (HOWN.out _) ⟨w2.heap.size, 0, none⟩ 1 1 rfl rfl rfl HNEWS.out HONE.out HSM.out ?_; intro v2 w4 hown4 hgrow4 hpl4; have HF4 := Lib.hid (HPUSH.out v2 w4 hown4 hgrow4 hpl4); obtain ⟨a2, c2, rfl⟩ := hown4.form; clear hown4 hgrow4 hpl4)
              obtain ⟨J', _, h5, h6, _⟩ := HF4.out
              have HE : Hid (Ends w p (L + 1) (vn + 1) un (.slice a2 (vs ++ [((⟨q.x, q.y, q.b⟩, .slice ua Z uc) : MV)]).length c2) (.slice ca un cc) w4) := ⟨_, _, us, ⟨J', K, h5, h6⟩, by rw [List.map_append]; exact HSD.out, by rw [List.length_append, HDL.out.1]; rfl, HDL.out.2.1, by rw [List.length_append, HLB.out]; rfl⟩
              have hlen5 : (vs ++ [((⟨q.x, q.y, q.b⟩, .slice ua Z uc) : MV)]).length = vn + 1 := by rw [List.length_append, HDL.out.1]; rfl
              rw [hlen5] at HE
              rw [HDL.out.1]
              clear h5 h6 hlen5 hl64
              have HLE := Lib.hid HE.out.len.1
              have hL64 := HE.out.len.2
              go_wp2_with (go_at_call 21; refine HLE.out.mono ?_; rintro e wz ⟨rfl, rfl⟩)
              go_roundw
              case rel => exact ⟨k + 1, vn + 1, un, L + 1, _, _, _, _, by omega, by go_num, rfl, rfl, by omega, by omega, HE.out⟩
              case measure => simp [intOf]; omega
            · have hde := send_err (d := d) (a := q.x) (b := q.y) (l := q.b) (by rw [hR]; exact hR0)
              rw [hde] at h3
              have HE : Hid (Ends w p L vn un (.slice sa vn sc) (.slice ca un cc) w2) := ⟨d, vs, us, ⟨J, K, h3, h4⟩, HS.out, HDL.out⟩
              have hRb : (R == 0) = false := by simpa using hR0
              clear e0 e1 e2 e3 e4 b0 b1 b2 b3 b4 h3 k3 hR hde h4 hu2 hsend
              have HLE := Lib.hid HE.out.len.1
              have hL64 := HE.out.len.2
              go_wp2_with (go_at_call 21; refine HLE.out.mono ?_; rintro e wz ⟨rfl, rfl⟩)
              go_roundw
              case rel => exact ⟨k + 1, vn, un, L, _, _, _, _, by omega, by go_num, rfl, rfl, by omega, by omega, HE.out⟩
              case measure => simp [intOf]; omega
          · by_cases ho : q.o = 1
            · rw [ho] at e0 hwb b0
              go_wp2_with fail
              rw [← hwb]
              clear hwb
              refine HLEN.out.mono ?_
              rintro e wl ⟨rfl, hwl⟩
              subst hwl

              go_wp2_with fail
              refine (H1.out.deliver q.i).mono ?_
              rintro e w2 ⟨ta, tc, X, rfl, hown2, hX, h3, k3⟩
              obtain ⟨m, hm⟩ : ∃ m, (d.deliver q.i).1 = m := ⟨_, rfl⟩
              obtain ⟨R, hR⟩ : ∃ R, (d.deliver q.i).2.1 = R := ⟨_, rfl⟩
              rw [hm] at hown2 hX ⊢
              rw [hR]
              have hXl : ∀ j, X j → wb.heap.size ≤ j ∧ j < w2.heap.size := fun j hj => by rw [hX] at hj; exact hown2.lt j hj
              have hJl := H1.out.lt
              have h4 : Rows2 w w2 (fun j => J j ∨ X j) (fun j => K j ∨ X j) (.slice sa vn sc) (.slice ca un cc) vs us := (H2.out.keep k3).wide (fun j hj => .inl hj) (fun j hj => .inl hj) (fun j hj => hj.imp (H2.out.kj j) id) (fun j hj hn => by
                rcases hj with hj | hj
                · exact absurd hj hn
                · have h5 := (hXl j hj).1
                  exact ⟨fun e => by have := hJl j (H2.out.sJ j e).1; omega, fun e => by have := hJl j (H2.out.cJ j e).1; omega⟩)
              have hu2 : BytesIn (fun j => K j ∨ X j) w2 (.slice ta m.b.length tc) m.b := hown2.bytesIn.wide fun j _ hj => .inr (by rw [hX]; exact hj)
              have hbl := Go.Joins.below_alloc1 w2 (.cells #[.int .i64 m.fr, .int .i64 m.to, .slice ta m.b.length tc] 49)
              have h5 := h3.more hbl (fun j => j = w2.heap.size) fun j hj => by rw [World.size_alloc]; omega
              have h6 := (h4.keep (Keep.of_below hbl)).wide (J' := fun j => (J j ∨ X j) ∨ j = w2.heap.size) (K' := fun j => K j ∨ X j) (fun j hj => .inl hj) (fun _ hj => hj) (fun j hj => .inl (h4.kj j hj)) (fun j hj hn => absurd hj hn)
              have hu3 := hu2.below hbl (Nat.le_refl _)
              have hbt3 : (w2.alloc (.cells #[.int .i64 m.fr, .int .i64 m.to, .slice ta m.b.length tc] 49)).heap[w2.heap.size]? = some (.cells #[.int .i64 m.fr, .int .i64 m.to, .slice ta m.b.length tc] 49 (0, 0)) := heap_alloc_new _ _
              have hcw2 : (Value.slice ca un cc).ownBlock ≠ some w2.heap.size := fun e => by have := h3.lt _ (h4.cJ _ e).1; omega
              obtain ⟨w3, hw3⟩ : ∃ w3, w3 = w2.alloc (.cells #[.int .i64 m.fr, .int .i64 m.to, .slice ta m.b.length tc] 49) := ⟨_, rfl⟩
              rw [← hw3] at h5 h6 hu3 hbt3
              have hsz3 : w2.heap.size < w3.heap.size := lt_of_block hbt3
              have hsz3e : w3.heap.size = w2.heap.size + 1 := by rw [hw3, World.size_alloc]
              obtain ⟨TL, hTL⟩ : ∃ TL, m.b.length = TL := ⟨_, rfl⟩
              have HTL := Lib.hid hTL
              rw [hTL] at hw3 hu3 hbt3 ⊢
              have HM := Lib.hid hm
              clear e0 e1 e2 e3 e4 b0 b1 b2 b3 b4 h3 k3 hm hown2 hX hXl hJl h4 hu2 hbl hTL
              by_cases hR0 : R = 0
              · subst hR0
                obtain ⟨hget, hok⟩ := deliver_ok hR
                rw [HM.out] at hget
                rw [hok] at h5
                have hgl := (List.getElem?_eq_some_iff.1 hget).1
                have HSD := Lib.hid (HS.out.came hget)
                obtain ⟨L', hL'⟩ : ∃ L', L = L' + 1 := ⟨L - 1, by have := HDL.out.2.2; omega⟩
                subst hL'
                have HLB : Hid ((d.bag.eraseIdx q.i.toNat).length = L') := by
                  have := HDL.out.2.2
                  show (d.bag.eraseIdx q.i.toNat).length = L'
                  rw [List.length_eraseIdx, if_pos hgl]; omega
                have hL64 : L' + 1 ≤ 64 := by have := H1.out.ok.len; have := HDL.out.2.2; omega
                have g0 : w3.cell? ⟨w2.heap.size, 0, none⟩ = some (.int .i64 m.fr) := by rw [Go.Joins.cell_of_block hbt3]; rfl
                have g1 : w3.cell? ⟨w2.heap.size, 1, none⟩ = some (.int .i64 m.to) := by rw [Go.Joins.cell_of_block hbt3]; rfl
                have g2 : w3.cell? ⟨w2.heap.size, 2, none⟩ = some (.slice ta TL tc) := by rw [Go.Joins.cell_of_block hbt3]; rfl
                have h7 := h6.swap
                have HBT := Lib.hid hbt3
                have HU3 := Lib.hid hu3
                have HOWN : Hid (∀ o, OwnMs (w3.alloc o) (Value.slice ca un cc) us) := fun o => h7.rs.chg ((Chg.refl (fun _ => False) w3).alloc o) fun _ _ h => h
                have HNEWS : Hid (∀ (j : Nat) z, ([((m, .slice ta TL tc) : MV)].flatMap mc)[j]? = some z → (w3.alloc (.cells #[.int .i64 m.fr, .int .i64 m.to, (.slice ta TL tc)] 49)).cell? ((⟨w3.heap.size, 0, none⟩ : Addr).add j) = some z) := row_news w3 m.fr m.to (.slice ta TL tc)
                have HONE : Hid (∀ z ∈ [((m, .slice ta TL tc) : MV)].flatMap mc, z.oneCell' = true) := row_one hu3
                have HSM : Hid (us.length + [((m, .slice ta TL tc) : MV)].length ≤ 1000000) := by
                  unfold Hid
                  simp only [List.length_singleton]
                  have := HDL.out.2.1
                  omega
                have HPUSH : Hid (∀ v2 w4, OwnMs w4 v2 (us ++ [(m, .slice ta TL tc)]) → (w3.alloc (.cells #[.int .i64 m.fr, .int .i64 m.to, (.slice ta TL tc)] 49)).grownBy w4 (Value.slice ca un cc).ownBlock → Placed (w3.alloc (.cells #[.int .i64 m.fr, .int .i64 m.to, (.slice ta TL tc)] 49)) (Value.slice ca un cc) v2 → _) := fun v2 w4 z1 z2 z3 => h7.push h5 hu3 (Go.Joins.below_alloc1 w3 _) z1 z2 z3
                have HCW := Lib.hid hcw2
                rw [hsz3e] at HNEWS
                clear h5 h6 h7 hu3 hbt3 hR hok hget hgl hcw2 hsz3 hsz3e
                go_wp2_with (at_builtin; rw [← hw3]; refine wpList_append_ms rfl _ _ rfl _ us [((m, .slice ta TL tc) : MV)] (HOWN.out _) ⟨w2.heap.size + 1, 0, none⟩ 1 1 rfl rfl rfl HNEWS.out HONE.out HSM.out ?_; intro v2 w4 hown4 hgrow4 hpl4; have HF4 := Lib.hid (HPUSH.out v2 w4 hown4 hgrow4 hpl4); obtain ⟨a2, c2, rfl⟩ := hown4.form; clear hown4 hgrow4 hpl4)
                clear hw3
                obtain ⟨J', hJJ, h8, h9, k9⟩ := HF4.out
                have hbt4 := keep_block (b := w2.heap.size) k9 ⟨.inr rfl, HCW.out⟩ HBT.out
                have hu4 : BytesAt w4 (.slice ta TL tc) m.b := (h9.bs (m, .slice ta TL tc) (List.mem_append_right _ (by simp))).at
                have hulen : (us ++ [((m, .slice ta TL tc) : MV)]).length = un + 1 := by rw [List.length_append, HDL.out.2.1]; rfl
                have HLEN4 : Hid (∀ W, Below w4.heap.size w4 W → Calls Try.prog 21 #[.pointer (some ⟨p, 0, none⟩)] W fun e w' => e = .returned (.int .i64 (L' : Nat)) ∧ W = w') := fun W hb => by
                  have h := (h8.still hb).len
                  rw [show ({ d with bag := d.bag.eraseIdx q.i.toNat } : Nt).bag.length = L' from HLB.out] at h
                  exact h
                obtain ⟨C1, hC1⟩ : ∃ C1, like ((us ++ [((m, .slice ta TL tc) : MV)]).map (·.1)) m = C1 := ⟨_, rfl⟩
                obtain ⟨C2, hC2⟩ : ∃ C2, like (vs.map (·.1)) m = C2 := ⟨_, rfl⟩
                have hCC : C1 ≤ C2 := by
                  have h := HSD.out m
                  rw [← hC1, ← hC2, List.map_append]
                  exact Nat.le_trans (Nat.le_add_right _ _) h
                have HCOUNT1 : Hid (∀ W, Below w4.heap.size w4 W → Calls Try.prog 26 #[.slice a2 (un + 1) c2, .agg #[.int .i64 m.fr, .int .i64 m.to, .slice ta TL tc]] W fun e w' => e = .returned (.int .i64 (C1 : Nat)) ∧ Below W.heap.size W w') := fun W hb => by
                  have hr := h9.rs.chg (Chg.of_below (S := fun _ => False) hb (Nat.le_refl _)) fun _ _ h => h
                  have h := count_any hr (fun x hx => ((h9.bs x hx).below hb (Nat.le_refl _)).at) m (.slice ta TL tc) (hu4.below hb (Nat.le_refl _)) (by rw [hulen]; omega)
                  rw [hC1, hulen] at h
                  exact h
                have HCOUNT2 : Hid (∀ W, Below w4.heap.size w4 W → Calls Try.prog 26 #[.slice sa vn sc, .agg #[.int .i64 m.fr, .int .i64 m.to, .slice ta TL tc]] W fun e w' => e = .returned (.int .i64 (C2 : Nat)) ∧ Below W.heap.size W w') := fun W hb => by
                  have hr := h9.rc.chg (Chg.of_below (S := fun _ => False) hb (Nat.le_refl _)) fun _ _ h => h
                  have h := count_any hr (fun x hx => ((h9.bc x hx).below hb (Nat.le_refl _)).at) m (.slice ta TL tc) (hu4.below hb (Nat.le_refl _)) (by have := HDL.out.1; omega)
                  rw [hC2] at h
                  exact h
                have HCELLS : Hid (∀ W, Below w4.heap.size w4 W → (W.cell? ⟨w2.heap.size, 0, none⟩ = some (.int .i64 m.fr) ∧ W.cell? ⟨w2.heap.size, 1, none⟩ = some (.int .i64 m.to)) ∧ W.cell? ⟨w2.heap.size, 2, none⟩ = some (.slice ta TL tc)) := fun W hb => by
                  have h := (hb.block _ (lt_of_block hbt4)).trans hbt4
                  refine ⟨⟨?_, ?_⟩, ?_⟩ <;> rw [Go.Joins.cell_of_block h] <;> rfl
                have HE4 : Hid (∀ W, Below w4.heap.size w4 W → Ends w p L' vn (un + 1) (.slice sa vn sc) (.slice a2 (un + 1) c2) W) := fun W hb => by
                  have h10 := h9.swap
                  rw [hulen] at h10
                  exact ⟨_, vs, _, ⟨J', _, h8.still hb, h10.keep (Keep.of_below hb)⟩, by rw [List.map_append]; exact HSD.out, HDL.out.1, hulen, HLB.out⟩
                have g0 := (HCELLS.out w4 (Below.refl _ _)).1.1
                have g1 := (HCELLS.out w4 (Below.refl _ _)).1.2
                have g2 := (HCELLS.out w4 (Below.refl _ _)).2
                have HB0 : Hid (Below w4.heap.size w4 w4.drew) := (Below.refl _ _).drew
                have hw64 : IntKind.i64.wrap (L' : Int) = (L' : Int) := wrap_small64 (by omega) (by omega)
                have hne : ((L' : Int) != (L' : Int)) = false := by simp
                have hgt : decide ((C2 : Int) < (C1 : Int)) = false := by simp; omega
                have K1 : True := trivial
                have K2 : True := trivial
                rw [HDL.out.2.1]
                clear hC1 hC2 hbt4 hu4 hulen h8 h9 k9 hJJ
                go_region_held (fun W => (W.cell? ⟨w2.heap.size, 0, none⟩ = some (.int .i64 m.fr) ∧ W.cell? ⟨w2.heap.size, 1, none⟩ = some (.int .i64 m.to)) ∧ W.cell? ⟨w2.heap.size, 2, none⟩ = some (.slice ta TL tc)) ((refine HCELLS.out _ ?_; first | exact HB0.out | exact HB5c.out | exact HB6c.out))
                  (first | (go_at_call 21; refine (HLEN4.out _ HB0.out).mono ?_; rintro e wz ⟨rfl, rfl⟩) | (clear K1; go_at_call 26; refine (HCOUNT1.out _ HB0.out).mono ?_; rintro e w5 ⟨rfl, hb5⟩; have HB5c : Hid (Below w4.heap.size w4 w5) := HB0.out.trans (hb5.mono HB0.out.size); clear hb5) | (clear K2; go_at_call 26; refine (HCOUNT2.out _ HB5c.out).mono ?_; rintro e w6 ⟨rfl, hb6⟩; have HB6c : Hid (Below w4.heap.size w4 w6) := HB5c.out.trans (hb6.mono HB5c.out.size); clear hb6))
                have HE := Lib.hid (HE4.out w6 HB6c.out)
                clear g0 g1 g2
                go_wp2_with fail
                have HLE := Lib.hid HE.out.len.1
                have hL64 := HE.out.len.2
                go_wp2_with (go_at_call 21; refine HLE.out.mono ?_; rintro e wz ⟨rfl, rfl⟩)
                go_roundw
                case rel => exact ⟨k + 1, vn, un + 1, L', _, _, _, _, by omega, by go_num, rfl, rfl, by omega, by omega, HE.out⟩
                case measure => simp [intOf]; omega
              · have hde := deliver_err (d := d) (i := q.i) (by rw [hR]; exact hR0)
                rw [hde] at h5
                have HE : Hid (Ends w p L vn un (.slice sa vn sc) (.slice ca un cc) w3) := ⟨d, vs, us, ⟨_, _, h5, h6⟩, HS.out, HDL.out⟩
                have hRb : (R == 0) = false := by simpa using hR0
                clear h5 h6 hu3 hbt3 hR hde hcw2 hsz3 hsz3e
                go_wp2_with fail
                rw [← hw3]
                clear hw3
                have HLE := Lib.hid HE.out.len.1
                have hL64 := HE.out.len.2
                go_wp2_with (go_at_call 21; refine HLE.out.mono ?_; rintro e wz ⟨rfl, rfl⟩)
                go_roundw
                case rel => exact ⟨k + 1, vn, un, L, _, _, _, _, by omega, by go_num, rfl, rfl, by omega, by omega, HE.out⟩
                case measure => simp [intOf]; omega
            · by_cases ho : q.o = 2
              · rw [ho] at e0 hwb b0
                go_wp2_with fail
                rw [← hwb]
                clear hwb
                refine HLEN.out.mono ?_
                rintro e wl ⟨rfl, hwl⟩
                subst hwl

                go_wp2_with fail
                refine (H1.out.does fun _ _ hd => drop_at hd q.i).mono ?_
                rintro e w2 ⟨rfl, h3, k3⟩
                obtain ⟨R, hR⟩ : ∃ R, (d.drop q.i).1 = R := ⟨_, rfl⟩
                have HSD := Lib.hid (HS.out.out q.i)
                rw [hR]
                by_cases hR0 : R = 0
                · subst hR0
                  have HE : Hid (Ends w p (d.drop q.i).2.bag.length vn un (.slice sa vn sc) (.slice ca un cc) w2) := ⟨_, vs, us, ⟨J, K, h3, H2.out.keep k3⟩, HSD.out, HDL.out.1, HDL.out.2.1, rfl⟩
                  obtain ⟨L', hL'⟩ : ∃ L', (d.drop q.i).2.bag.length = L' := ⟨_, rfl⟩
                  rw [hL'] at HE
                  clear e0 e1 e2 e3 e4 b0 b1 b2 b3 b4 h3 k3 hR hL'
                  have HLE := Lib.hid HE.out.len.1
                  have hL64 := HE.out.len.2
                  go_wp2_with (go_at_call 21; refine HLE.out.mono ?_; rintro e wz ⟨rfl, rfl⟩)
                  go_roundw
                  case rel => exact ⟨k + 1, vn, un, L', _, _, _, _, by omega, by go_num, rfl, rfl, by omega, by omega, HE.out⟩
                  case measure => simp [intOf]; omega
                · have hde := drop_err (d := d) (i := q.i) (by rw [hR]; exact hR0)
                  rw [hde] at h3
                  have HE : Hid (Ends w p L vn un (.slice sa vn sc) (.slice ca un cc) w2) := ⟨d, vs, us, ⟨J, K, h3, H2.out.keep k3⟩, HS.out, HDL.out⟩
                  have hRb : (R == 0) = false := by simpa using hR0
                  clear e0 e1 e2 e3 e4 b0 b1 b2 b3 b4 h3 k3 hR hde
                  have HLE := Lib.hid HE.out.len.1
                  have hL64 := HE.out.len.2
                  go_wp2_with (go_at_call 21; refine HLE.out.mono ?_; rintro e wz ⟨rfl, rfl⟩)
                  go_roundw
                  case rel => exact ⟨k + 1, vn, un, L, _, _, _, _, by omega, by go_num, rfl, rfl, by omega, by omega, HE.out⟩
                  case measure => simp [intOf]; omega
              · by_cases ho : q.o = 3
                · rw [ho] at e0 hwb b0
                  go_wp2_with fail
                  rw [← hwb]
                  clear hwb
                  refine HLEN.out.mono ?_
                  rintro e wl ⟨rfl, hwl⟩
                  subst hwl

                  go_wp2_with fail
                  refine (H1.out.tell q.i).mono ?_
                  rintro e w2 ⟨ta, tc, X, rfl, hown2, hX, h3, k3⟩
                  obtain ⟨m, hm⟩ : ∃ m, (d.at q.i).1 = m := ⟨_, rfl⟩
                  obtain ⟨R0, hR00⟩ : ∃ R0, (d.at q.i).2 = R0 := ⟨_, rfl⟩
                  rw [hm] at hown2 hX ⊢
                  rw [hR00]
                  have hXl : ∀ j, X j → wb.heap.size ≤ j ∧ j < w2.heap.size := fun j hj => by rw [hX] at hj; exact hown2.lt j hj
                  have hJl := H1.out.lt
                  have h4 : Rows2 w w2 (fun j => J j ∨ X j) (fun j => K j ∨ X j) (.slice sa vn sc) (.slice ca un cc) vs us := (H2.out.keep k3).wide (fun j hj => .inl hj) (fun j hj => .inl hj) (fun j hj => hj.imp (H2.out.kj j) id) (fun j hj hn => by
                    rcases hj with hj | hj
                    · exact absurd hj hn
                    · have h5 := (hXl j hj).1
                      exact ⟨fun e => by have := hJl j (H2.out.sJ j e).1; omega, fun e => by have := hJl j (H2.out.cJ j e).1; omega⟩)
                  have hu2 : BytesIn (fun j => K j ∨ X j) w2 (.slice ta m.b.length tc) m.b := hown2.bytesIn.wide fun j _ hj => .inr (by rw [hX]; exact hj)
                  have hbx2 := keep_block k3 HB5.out.1 HBX.out
                  -- the box of what At told
                  have hbl := Go.Joins.below_alloc1 w2 (.cells #[.int .i64 m.fr, .int .i64 m.to, .slice ta m.b.length tc] 49)
                  have h5 := h3.more hbl (fun j => j = w2.heap.size) fun j hj => by rw [World.size_alloc]; omega
                  have h6 := (h4.keep (Keep.of_below hbl)).wide (J' := fun j => (J j ∨ X j) ∨ j = w2.heap.size) (K' := fun j => K j ∨ X j) (fun j hj => .inl hj) (fun _ hj => hj) (fun j hj => .inl (h4.kj j hj)) (fun j hj hn => absurd hj hn)
                  have hu3 := hu2.below hbl (Nat.le_refl _)
                  have hbx3 : (w2.alloc (.cells #[.int .i64 m.fr, .int .i64 m.to, .slice ta m.b.length tc] 49)).heap[wr.heap.size]? = some (actBox q ua uc) := by rw [heap_alloc_old (h := lt_of_block hbx2)]; exact hbx2
                  have hbt3 : (w2.alloc (.cells #[.int .i64 m.fr, .int .i64 m.to, .slice ta m.b.length tc] 49)).heap[w2.heap.size]? = some (.cells #[.int .i64 m.fr, .int .i64 m.to, .slice ta m.b.length tc] 49 (0, 0)) := heap_alloc_new _ _
                  obtain ⟨w3, hw3⟩ : ∃ w3, w3 = w2.alloc (.cells #[.int .i64 m.fr, .int .i64 m.to, .slice ta m.b.length tc] 49) := ⟨_, rfl⟩
                  have f3 : ∀ o, (w2.alloc o).cell? ⟨wr.heap.size, 3, none⟩ = some (.int .i64 q.i) := fun o => by rw [World.cell?_alloc_lt _ _ _ (lt_of_block hbx2)]; exact (box_cells hbx2).2.1
                  rw [← hw3] at h5 h6 hu3 hbx3 hbt3
                  obtain ⟨⟨d0, d1, d2⟩, d3, d4⟩ := box_cells hbx3
                  have H5 := Lib.hid h5
                  have H6 := Lib.hid h6
                  have HU3 := Lib.hid hu3
                  have HBT := Lib.hid hbt3
                  obtain ⟨TL, hTL⟩ : ∃ TL, m.b.length = TL := ⟨_, rfl⟩
                  have HTL := Lib.hid hTL
                  rw [hTL] at hw3 ⊢
                  have HM := Lib.hid hm
                  clear e0 e1 e2 e3 e4 b0 b1 b2 b3 b4 h3 k3 hm hR00 hown2 hX hXl hJl h4 hu2 hbx2 hbl h5 h6 hu3 hbx3 hbt3 hTL
                  go_wp2_with fail
                  rw [← hw3]
                  clear hw3
                  refine (H5.out.does fun _ _ hd => double_at hd q.i).mono ?_
                  rintro e w5 ⟨rfl, h7, k7⟩
                  obtain ⟨R, hR⟩ : ∃ R, (d.double q.i).1 = R := ⟨_, rfl⟩
                  have h8 := H6.out.keep k7
                  have hu5 := HU3.out.keep k7 H6.out.kj
                  have hbt5 := keep_block k7 (.inr rfl) HBT.out
                  rw [hR]
                  by_cases hR0 : R = 0
                  · subst hR0
                    have hok := double_ok hR
                    rw [HM.out] at hok
                    rw [hok] at h7
                    rw [HTL.out] at hbt5 hu5
                    have g0 : w5.cell? ⟨w2.heap.size, 0, none⟩ = some (.int .i64 m.fr) := by rw [Go.Joins.cell_of_block hbt5]; rfl
                    have g1 : w5.cell? ⟨w2.heap.size, 1, none⟩ = some (.int .i64 m.to) := by rw [Go.Joins.cell_of_block hbt5]; rfl
                    have g2 : w5.cell? ⟨w2.heap.size, 2, none⟩ = some (.slice ta TL tc) := by rw [Go.Joins.cell_of_block hbt5]; rfl
                    have HSD := Lib.hid (HS.out.sent m)
                    have HOWN : Hid (∀ o, OwnMs (w5.alloc o) (Value.slice sa vn sc) vs) := fun o => h8.rs.chg ((Chg.refl (fun _ => False) w5).alloc o) fun _ _ h => h
                    have HNEWS : Hid (∀ (j : Nat) z, ([((m, .slice ta TL tc) : MV)].flatMap mc)[j]? = some z → (w5.alloc (.cells #[.int .i64 m.fr, .int .i64 m.to, (.slice ta TL tc)] 49)).cell? ((⟨w5.heap.size, 0, none⟩ : Addr).add j) = some z) := row_news w5 m.fr m.to (.slice ta TL tc)
                    have HONE : Hid (∀ z ∈ [((m, .slice ta TL tc) : MV)].flatMap mc, z.oneCell' = true) := row_one hu5
                    have HSM : Hid (vs.length + [((m, .slice ta TL tc) : MV)].length ≤ 1000000) := by
                      unfold Hid
                      simp only [List.length_singleton]
                      have := HDL.out.1
                      omega
                    have HPUSH : Hid (∀ v2 w4, OwnMs w4 v2 (vs ++ [(m, .slice ta TL tc)]) → (w5.alloc (.cells #[.int .i64 m.fr, .int .i64 m.to, (.slice ta TL tc)] 49)).grownBy w4 (Value.slice sa vn sc).ownBlock → Placed (w5.alloc (.cells #[.int .i64 m.fr, .int .i64 m.to, (.slice ta TL tc)] 49)) (Value.slice sa vn sc) v2 → _) := fun v2 w4 z1 z2 z3 => h8.push h7 hu5 (Go.Joins.below_alloc1 w5 _) z1 z2 z3
                    have HLB : Hid (d.bag.length = L) := HDL.out.2.2
                    clear h7 k7 hR hok h8 hu5 hbt5 d0 d1 d2 d3 d4 f3
                    go_wp2_with (at_builtin; refine wpList_append_ms rfl _ _ rfl _ vs [((m, .slice ta TL tc) : MV)] (HOWN.out _) ⟨w5.heap.size, 0, none⟩ 1 1 rfl rfl rfl HNEWS.out HONE.out HSM.out ?_; intro v2 w4 hown4 hgrow4 hpl4; have HF4 := Lib.hid (HPUSH.out v2 w4 hown4 hgrow4 hpl4); obtain ⟨a2, c2, rfl⟩ := hown4.form; clear hown4 hgrow4 hpl4)
                    obtain ⟨J', _, h9, h10, _⟩ := HF4.out
                    have HE : Hid (Ends w p (L + 1) (vn + 1) un (.slice a2 (vs ++ [((m, .slice ta TL tc) : MV)]).length c2) (.slice ca un cc) w4) := ⟨_, _, us, ⟨J', _, h9, h10⟩, by rw [List.map_append]; exact HSD.out, by rw [List.length_append, HDL.out.1]; rfl, HDL.out.2.1, by rw [List.length_append, HLB.out]; rfl⟩
                    have hlen5 : (vs ++ [((m, .slice ta TL tc) : MV)]).length = vn + 1 := by rw [List.length_append, HDL.out.1]; rfl
                    rw [hlen5] at HE
                    rw [HDL.out.1]
                    clear h9 h10 hlen5
                    have HLE := Lib.hid HE.out.len.1
                    have hL64 := HE.out.len.2
                    go_wp2_with (go_at_call 21; refine HLE.out.mono ?_; rintro e wz ⟨rfl, rfl⟩)
                    go_roundw
                    case rel => exact ⟨k + 1, vn + 1, un, L + 1, _, _, _, _, by omega, by go_num, rfl, rfl, by omega, by omega, HE.out⟩
                    case measure => simp [intOf]; omega
                  · have hde := double_err (d := d) (i := q.i) (by rw [hR]; exact hR0)
                    rw [hde] at h7
                    have HE : Hid (Ends w p L vn un (.slice sa vn sc) (.slice ca un cc) w5) := ⟨d, vs, us, ⟨_, _, h7, h8⟩, HS.out, HDL.out⟩
                    have hRb : (R == 0) = false := by simpa using hR0
                    clear h7 k7 hR hde h8 hu5 hbt5
                    have HLE := Lib.hid HE.out.len.1
                    have hL64 := HE.out.len.2
                    go_wp2_with (go_at_call 21; refine HLE.out.mono ?_; rintro e wz ⟨rfl, rfl⟩)
                    go_roundw
                    case rel => exact ⟨k + 1, vn, un, L, _, _, _, _, by omega, by go_num, rfl, rfl, by omega, by omega, HE.out⟩
                    case measure => simp [intOf]; omega
                · by_cases ho : q.o = 4
                  · rw [ho] at e0 hwb b0
                    go_wp2_with fail
                    rw [← hwb]
                    clear hwb
                    refine HLEN.out.mono ?_
                    rintro e wl ⟨rfl, hwl⟩
                    subst hwl

                    go_wp2_with fail
                    refine (H1.out.does fun _ _ hd => Cut_at hd q.x q.y).mono ?_
                    rintro e w2 ⟨rfl, h3, k3⟩
                    have HE : Hid (Ends w p L vn un (.slice sa vn sc) (.slice ca un cc) w2) := ⟨_, vs, us, ⟨J, K, h3, H2.out.keep k3⟩, HS.out.turn q.x q.y true, HDL.out.1, HDL.out.2.1, by rw [turn_bag]; exact HDL.out.2.2⟩
                    clear e0 e1 e2 e3 e4 b0 b1 b2 b3 b4 h3 k3

                    have HLE := Lib.hid HE.out.len.1
                    have hL64 := HE.out.len.2
                    go_wp2_with (go_at_call 21; refine HLE.out.mono ?_; rintro e wz ⟨rfl, rfl⟩)
                    go_roundw
                    case rel => exact ⟨k + 1, vn, un, L, _, _, _, _, by omega, by go_num, rfl, rfl, by omega, by omega, HE.out⟩
                    case measure => simp [intOf]; omega
                  · by_cases ho : q.o = 5
                    · rw [ho] at e0 hwb b0
                      go_wp2_with fail
                      rw [← hwb]
                      clear hwb
                      refine HLEN.out.mono ?_
                      rintro e wl ⟨rfl, hwl⟩
                      subst hwl

                      go_wp2_with fail
                      refine (H1.out.does fun _ _ hd => Heal_at hd q.x q.y).mono ?_
                      rintro e w2 ⟨rfl, h3, k3⟩
                      have HE : Hid (Ends w p L vn un (.slice sa vn sc) (.slice ca un cc) w2) := ⟨_, vs, us, ⟨J, K, h3, H2.out.keep k3⟩, HS.out.turn q.x q.y false, HDL.out.1, HDL.out.2.1, by rw [turn_bag]; exact HDL.out.2.2⟩
                      clear e0 e1 e2 e3 e4 b0 b1 b2 b3 b4 h3 k3

                      have HLE := Lib.hid HE.out.len.1
                      have hL64 := HE.out.len.2
                      go_wp2_with (go_at_call 21; refine HLE.out.mono ?_; rintro e wz ⟨rfl, rfl⟩)
                      go_roundw
                      case rel => exact ⟨k + 1, vn, un, L, _, _, _, _, by omega, by go_num, rfl, rfl, by omega, by omega, HE.out⟩
                      case measure => simp [intOf]; omega
                    · have g0 : (q.o == 0) = false := by simp; omega
                      have g1 : (q.o == 1) = false := by simp; omega
                      have g2 : (q.o == 2) = false := by simp; omega
                      have g3 : (q.o == 3) = false := by simp; omega
                      have g4 : (q.o == 4) = false := by simp; omega
                      have g5 : (q.o == 5) = false := by simp; omega
                      go_wp2_with fail
                      rw [← hwb]
                      clear hwb
                      refine HLEN.out.mono ?_
                      rintro e wl ⟨rfl, hwl⟩
                      subst hwl

                      have HE : Hid (Ends w p L vn un (.slice sa vn sc) (.slice ca un cc) wb) := ⟨d, vs, us, ⟨J, K, H1.out, H2.out⟩, HS.out, HDL.out⟩
                      clear e0 e1 e2 e3 e4

                      have HLE := Lib.hid HE.out.len.1
                      have hL64 := HE.out.len.2
                      go_wp2_with (go_at_call 21; refine HLE.out.mono ?_; rintro e wz ⟨rfl, rfl⟩)
                      go_roundw
                      case rel => exact ⟨k + 1, vn, un, L, _, _, _, _, by omega, by go_num, rfl, rfl, by omega, by omega, HE.out⟩
                      case measure => simp [intOf]; omega
        · obtain rfl : k = l.length := by omega
          have HB : Hid (Below w.heap.size w wr) := by obtain ⟨d, vs, us, ⟨J, K, h1, _⟩, _⟩ := HW.out; exact h1.below
          clear HW
          go_wp2_with (go_at_call 9; refine (HX.out _ HB.out).mono ?_; rintro e w9 ⟨rfl, hb⟩; have HBE := Lib.hid hb; clear hb)
          go_ret
          exact ⟨rfl, HBE.out⟩
    · rw [hmany] at HMANY
      clear hmany
      go_enter Try.func5, Try.ntmps5
      go_wp2_with fail
      refine HNEW.out.mono ?_
      rintro e w1 ⟨p, rfl, hf⟩
      obtain ⟨_, _, _, _, hb1⟩ := hf
      have HB1 := Lib.hid hb1
      clear hb1
      go_wp2_with (first | (go_at_call 8; refine (HMANY.out _ HB1.out).mono ?_; rintro e w2 ⟨rfl, hb⟩; have HB2 := Lib.hid (HB1.out.trans (hb.mono HB1.out.size)); clear hb) | (go_at_call 9; refine (HX.out _ HB2.out).mono ?_; rintro e w9 ⟨rfl, hb⟩; have HBE := Lib.hid hb; clear hb))
      go_ret
      exact ⟨rfl, HBE.out⟩
  · have HNEW := Lib.hid (new_no nodes w (by omega))
    clear hr
    go_enter Try.func5, Try.ntmps5
    go_wp2_with (first | (go_at_call 10; refine HNEW.out.mono ?_; rintro e w1 ⟨rfl, rfl⟩) | (go_at_call 9; refine (HX.out _ (Below.refl _ _)).mono ?_; rintro e w9 ⟨rfl, hb⟩; have HBE := Lib.hid hb; clear hb))
    go_ret
    exact ⟨rfl, HBE.out⟩
end Go.Proofs.Ytbmebmkpjbgdoaa
