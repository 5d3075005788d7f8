/- act: Append, Put, Rename, Remove. -/
import Derived.Test.YticbfnflillokaaRowH
namespace Go.Proofs.Yticbfnflillokaa
open Go.RowKit
set_option maxRecDepth 100000 in
set_option maxHeartbeats 8000000 in
theorem act_append {w : Fr} {wi : World} {K : Bks} {p q N M : Nat} {d : Dk} (h : Duo w K wi p q N M d d) (hN : N ≤ 400000) (hM : M ≤ 400000) (nm to l : Bs) (x y : Int) (ua : Option Addr) (L uc : Nat) (hu : BytesIn K wi (.slice ua L uc) l) (hL : l.length = L) (hl : L ≤ 100000) (hnm : nm.length ≤ maxLen) (hto : to.length ≤ maxLen) :
    Calls Try.prog 16 #[.pointer (some ⟨p, 0, none⟩), .pointer (some ⟨q, 0, none⟩), .agg #[.int .i64 0, .string ⟨nm.toArray⟩, .string ⟨to.toArray⟩, .slice ua L uc, .int .i64 x, .int .i64 y]] wi (ActDoes w K wi p q N M (d.act ⟨0, nm, to, l, x, y⟩)) := by
  have HREADY := Lib.hid (Ready.of h 0 nm to l ua L uc x y hu hL)
  have HMADE : Hid (OwnBytes (wi.heap.size + 1) ((wi.alloc (.cells #[.int .i64 0, .string ⟨nm.toArray⟩, .string ⟨to.toArray⟩, .slice ua L uc, .int .i64 x, .int .i64 y] 33)).alloc (.cells #[] 5)) (.slice (some ⟨wi.heap.size + 1, 0, none⟩) 0 0) []) := by
    have := OwnBytes.made (wi.alloc (.cells #[.int .i64 0, .string ⟨nm.toArray⟩, .string ⟨to.toArray⟩, .slice ua L uc, .int .i64 x, .int .i64 y] 33)) (wi.heap.size + 1) (by rw [World.size_alloc]; omega)
    rw [World.size_alloc] at this
    exact this
  have HU1 : Hid (∀ z z', BytesAt ((wi.alloc z).alloc z') (.slice ua L uc) l) := fun z z' => (hu.at.below (Go.Joins.below_alloc1 wi z) (Nat.le_refl _)).below (Go.Joins.below_alloc1 _ z') (Nat.le_refl _)
  have HS1 : Hid (∀ z z', wi.heap.size + 1 ≤ ((wi.alloc z).alloc z').heap.size) := fun z z' => by rw [World.size_alloc, World.size_alloc]; omega
  have e3 : ∀ z, ((wi.alloc (.cells #[.int .i64 0, .string ⟨nm.toArray⟩, .string ⟨to.toArray⟩, .slice ua L uc, .int .i64 x, .int .i64 y] 33)).alloc z).cell? ⟨wi.heap.size, 3, none⟩ = some (.slice ua L uc) := fun z => by
    have := XBox.cells (wi := wi) (o := 0) (n := nm) (t := to) (u := .slice ua L uc) (x := x) (y := y) (K := fun _ => True) (keep_below (Go.Joins.below_alloc1 _ z)) trivial
    exact this.2.2.2.1
  have HL := Lib.hid hL
  have hask : d.ask 0 nm to l = d.append nm l := rfl
  obtain ⟨r, d', hrd0⟩ : ∃ r d', d.append nm l = (r, d') := ⟨_, _, rfl⟩
  have HND : Hid (∀ (K3 : Bks) (e : Dk) M' a2 k2 W, BytesAt W (.slice a2 L k2) l → Duo w K3 W p q N M' d e → Calls Try.prog 14 #[.pointer (some ⟨p, 0, none⟩), .string ⟨nm.toArray⟩, .slice a2 L k2] W fun en w' => en = .returned (.int .i64 r) ∧ Duo w K3 w' p q (N + 1) M' d' e ∧ Keep K3 W w') := fun K3 e M' a2 k2 W hby hd => by
    have := hd.net (A := fun en => en = .returned (.int .i64 (d.append nm l).1)) (d' := (d.append nm l).2) (N' := N + 1) fun J hJ => hJ.does fun _ _ hn => append_any hn hN nm l _ hby hnm
    rwa [hrd0] at this
  have HMD : Hid (∀ (K3 : Bks) (d0 : Dk) N' W, BytesAt W (.slice ua L uc) l → Duo w K3 W p q N' M d0 d → Calls Try.prog 47 #[.pointer (some ⟨q, 0, none⟩), .agg #[.int .i64 0, .string ⟨nm.toArray⟩, .string ⟨to.toArray⟩, .slice ua L uc]] W fun en w' => en = .returned (.int .i64 r) ∧ Duo w K3 w' p q N' (M + 1) d0 d' ∧ Keep K3 W w') := fun K3 d0 N' W hby hd => by
    have := hd.ref (A := fun en => en = .returned (.int .i64 (d.ask 0 nm to l).1)) (e' := (d.ask 0 nm to l).2) (M' := M + 1) fun R hR => ask_any hR hM 0 nm to l ua uc L hL hby (by omega) hl hnm hto
    rwa [hask, hrd0] at this
  have hact : d.act ⟨0, nm, to, l, x, y⟩ = d' := by show (d.append nm l).2 = d'; rw [hrd0]
  rw [hact]
  have kr : (r == r) = true := by simp
  clear hact hrd0 hask
  clear h hu hL
  go_enter Try.func16, Try.ntmps16
  go_wp2_with (at_builtin; refine wpList_append_place rfl _ _ rfl (wi.heap.size + 1) _ (.slice ua L uc) [] l rfl (by simp [Act.eval]) HMADE.out (HU1.out _ _) (by rw [HL.out]; show 0 + L ≤ 175921860444160; omega) (HS1.out _ _) ?_; intro v2 w2 ho2 hg2 _; obtain ⟨a2, k2, rfl, x0, x1, K3, W3, hW3, hrd⟩ := HREADY.out v2 w2 ho2 hg2; have HRD := Lib.hid hrd; obtain ⟨q0, q1, q2, q3, q4, q5⟩ := x0; have y0 := fun z => (x1 z).1; have y1 := fun z => (x1 z).2.1; have y2 := fun z => (x1 z).2.2.1; have y4 := fun z => (x1 z).2.2.2.2.1; have y5 := fun z => (x1 z).2.2.2.2.2; clear ho2 hg2 hrd x1)
  rw [← hW3]
  clear hW3 q0 q1 q2 q3 q4 q5 y0 y1 y2 y4 y5 e3
  obtain ⟨G, hG⟩ : ∃ G, w2.heap.size = G := ⟨_, rfl⟩
  rw [hG] at HRD ⊢
  clear hG
  have HS : Hid (∀ W, Keep K3 W3 W → (W.cell? ⟨wi.heap.size, 1, none⟩ = some (.string ⟨nm.toArray⟩) ∧ W.cell? ⟨wi.heap.size, 2, none⟩ = some (.string ⟨to.toArray⟩)) ∧ W.cell? ⟨G, 0, none⟩ = some (.int .i64 0) ∧ W.cell? ⟨G, 1, none⟩ = some (.string ⟨nm.toArray⟩) ∧ W.cell? ⟨G, 2, none⟩ = some (.string ⟨to.toArray⟩) ∧ W.cell? ⟨G, 3, none⟩ = some (.slice ua L uc)) := fun W hk => ⟨⟨(HRD.out.xc W hk).2.1, (HRD.out.xc W hk).2.2.1⟩, HRD.out.cc W hk⟩
  have HD0 : Hid (Duo w K3 W3.drew p q N M d d) := HRD.out.duo.still (Below.refl _ _).drew
  have HKD : Hid (Keep K3 W3 W3.drew) := keep_below (Below.refl _ _).drew
  have s0 := HS.out W3 (Keep.refl _ _)
  go_region_held (fun W => (W.cell? ⟨wi.heap.size, 1, none⟩ = some (.string ⟨nm.toArray⟩) ∧ W.cell? ⟨wi.heap.size, 2, none⟩ = some (.string ⟨to.toArray⟩)) ∧ W.cell? ⟨G, 0, none⟩ = some (.int .i64 0) ∧ W.cell? ⟨G, 1, none⟩ = some (.string ⟨nm.toArray⟩) ∧ W.cell? ⟨G, 2, none⟩ = some (.string ⟨to.toArray⟩) ∧ W.cell? ⟨G, 3, none⟩ = some (.slice ua L uc)) ((first | exact s0 | exact s0')) (first
    | (go_at_call 14; refine (HND.out K3 d M a2 k2 _ (HRD.out.own _ HKD.out).2.1 HD0.out).mono ?_; rintro e w5 ⟨rfl, hd2, hk2⟩; have HD2 : Hid (Duo w K3 w5 p q (N + 1) M d' d ∧ Keep K3 W3 w5) := ⟨hd2, HKD.out.trans hk2⟩; have s0' := HS.out w5 HD2.out.2; clear hd2 hk2)
    | (go_at_call 14; refine (HND.out K3 d' (M + 1) a2 k2 _ (HRD.out.own _ HE2.out.2).2.1 HE2.out.1).mono ?_; rintro e w4 ⟨rfl, hd3, hk3⟩; have HD3 : Hid (Duo w K3 w4 p q (N + 1) (M + 1) d' d' ∧ Keep K3 W3 w4) := ⟨hd3, HE2.out.2.trans hk3⟩; have s0' := HS.out w4 HD3.out.2; clear hd3 hk3)
    | (go_at_call 47; refine (HMD.out K3 d' (N + 1) _ (HRD.out.own _ HD2.out.2).2.2 HD2.out.1).mono ?_; rintro e w4 ⟨rfl, hd3, hk3⟩; have HD3 : Hid (Duo w K3 w4 p q (N + 1) (M + 1) d' d' ∧ Keep K3 W3 w4) := ⟨hd3, HD2.out.2.trans hk3⟩; have s0' := HS.out w4 HD3.out.2; clear hd3 hk3)
    | (go_at_call 47; refine (HMD.out K3 d N _ (HRD.out.own _ HKD.out).2.2 HD0.out).mono ?_; rintro e w5 ⟨rfl, hd2, hk2⟩; have HE2 : Hid (Duo w K3 w5 p q N (M + 1) d d' ∧ Keep K3 W3 w5) := ⟨hd2, HKD.out.trans hk2⟩; have s0' := HS.out w5 HE2.out.2; clear hd2 hk2))
  clear s0 s0'
  go_wp2
  have HD4 : Hid (Duo w K3 w4 p q (N + 1) (M + 1) d' d') := HD3.out.1
  have HO4 : Hid (OwnBytes (wi.heap.size + 1) w4 (.slice a2 L k2) l) := (HRD.out.own _ HD3.out.2).1
  have HK4 : Hid (Keep K wi w4) := HRD.out.keep.trans (HD3.out.2.mono fun k hk => (HRD.out.sub k hk).1)
  go_loopw [15] (fun i wr => ∃ k : Nat, k ≤ L ∧ i = .int .i64 (k : Nat) ∧ Hid (∃ l' : Bs, l'.length = L ∧ OwnBytes (wi.heap.size + 1) wr (.slice a2 L k2) l' ∧ Duo w K3 wr p q (N + 1) (M + 1) d' d' ∧ Keep K w4 wr)) (fun i _ => L - (intOf i).toNat)
  case atStart => exact ⟨0, Nat.zero_le _, rfl, l, HL.out, HO4.out, HD4.out, Keep.refl _ _⟩
  case round =>
    obtain ⟨k, hk, rfl, HI⟩ := hrel
    by_cases hlt : k < L
    · obtain ⟨l', hl', ho', hd', hk'⟩ := HI.out
      have hg : ∃ g, a2 = some ⟨g, 0, none⟩ := by
        rcases ho'.2 with ⟨h1, h0⟩ | ⟨g, cap', cur, hv', _⟩
        · omega
        · injection hv' with e1; exact ⟨g, e1⟩
      obtain ⟨g, rfl⟩ := hg
      obtain ⟨⟨z, e0⟩, f0, hs⟩ := ho'.spoil' hl' k hlt
      have HS := Lib.hid hs
      have HDD := Lib.hid (And.intro hd' hk')
      clear hl' ho' hd' hk' hs
      go_wp2
      go_roundw
      case rel =>
        obtain ⟨l'', h1, h2⟩ := HS.out _
        refine ⟨k + 1, by omega, by go_num, l'', h1, h2, ?_, ?_⟩
        · exact (HDD.out.1.write (C := fun j => j = g) ((Chg.refl (fun j => j = g) wr).setCell (p := ⟨g, k, none⟩) (.inl rfl) _) (fun j hj => by subst hj; have := HRD.out.row j rfl; exact ⟨this.1, this.2.1⟩) (fun _ => False) fun _ h => h.elim).narrow fun _ h => .inl h
        · refine HDD.out.2.trans (((Chg.refl (fun j => j = g) wr).setCell (p := ⟨g, k, none⟩) (.inl rfl) _).keep fun j hj hK => ?_)
          subst hj
          have h3 := (HRD.out.row j rfl).2.2
          have h4 := (HRD.out.sub j hK).2
          omega
      case measure => simp [intOf]; omega
    · obtain rfl : k = L := by omega
      obtain ⟨l', hl', ho', hd', hk'⟩ := HI.out
      have HDD := Lib.hid (And.intro hd' hk')
      clear hl' ho' hd' hk'
      go_wp2
      go_ret
      exact ⟨rfl, HDD.out.1.narrow fun j hj => (HRD.out.sub j hj).1, HK4.out.trans HDD.out.2⟩
set_option maxRecDepth 100000 in
set_option maxHeartbeats 8000000 in
theorem act_put {w : Fr} {wi : World} {K : Bks} {p q N M : Nat} {d : Dk} (h : Duo w K wi p q N M d d) (hN : N ≤ 400000) (hM : M ≤ 400000) (nm to l : Bs) (x y : Int) (ua : Option Addr) (L uc : Nat) (hu : BytesIn K wi (.slice ua L uc) l) (hL : l.length = L) (hl : L ≤ 100000) (hnm : nm.length ≤ maxLen) (hto : to.length ≤ maxLen) :
    Calls Try.prog 16 #[.pointer (some ⟨p, 0, none⟩), .pointer (some ⟨q, 0, none⟩), .agg #[.int .i64 1, .string ⟨nm.toArray⟩, .string ⟨to.toArray⟩, .slice ua L uc, .int .i64 x, .int .i64 y]] wi (ActDoes w K wi p q N M (d.act ⟨1, nm, to, l, x, y⟩)) := by
  have HREADY := Lib.hid (Ready.of h 1 nm to l ua L uc x y hu hL)
  have HMADE : Hid (OwnBytes (wi.heap.size + 1) ((wi.alloc (.cells #[.int .i64 1, .string ⟨nm.toArray⟩, .string ⟨to.toArray⟩, .slice ua L uc, .int .i64 x, .int .i64 y] 33)).alloc (.cells #[] 5)) (.slice (some ⟨wi.heap.size + 1, 0, none⟩) 0 0) []) := by
    have := OwnBytes.made (wi.alloc (.cells #[.int .i64 1, .string ⟨nm.toArray⟩, .string ⟨to.toArray⟩, .slice ua L uc, .int .i64 x, .int .i64 y] 33)) (wi.heap.size + 1) (by rw [World.size_alloc]; omega)
    rw [World.size_alloc] at this
    exact this
  have HU1 : Hid (∀ z z', BytesAt ((wi.alloc z).alloc z') (.slice ua L uc) l) := fun z z' => (hu.at.below (Go.Joins.below_alloc1 wi z) (Nat.le_refl _)).below (Go.Joins.below_alloc1 _ z') (Nat.le_refl _)
  have HS1 : Hid (∀ z z', wi.heap.size + 1 ≤ ((wi.alloc z).alloc z').heap.size) := fun z z' => by rw [World.size_alloc, World.size_alloc]; omega
  have e3 : ∀ z, ((wi.alloc (.cells #[.int .i64 1, .string ⟨nm.toArray⟩, .string ⟨to.toArray⟩, .slice ua L uc, .int .i64 x, .int .i64 y] 33)).alloc z).cell? ⟨wi.heap.size, 3, none⟩ = some (.slice ua L uc) := fun z => by
    have := XBox.cells (wi := wi) (o := 1) (n := nm) (t := to) (u := .slice ua L uc) (x := x) (y := y) (K := fun _ => True) (keep_below (Go.Joins.below_alloc1 _ z)) trivial
    exact this.2.2.2.1
  have HL := Lib.hid hL
  have hask : d.ask 1 nm to l = d.putF nm l := rfl
  obtain ⟨r, d', hrd0⟩ : ∃ r d', d.putF nm l = (r, d') := ⟨_, _, rfl⟩
  have HND : Hid (∀ (K3 : Bks) (e : Dk) M' a2 k2 W, BytesAt W (.slice a2 L k2) l → Duo w K3 W p q N M' d e → Calls Try.prog 19 #[.pointer (some ⟨p, 0, none⟩), .string ⟨nm.toArray⟩, .slice a2 L k2] W fun en w' => en = .returned (.int .i64 r) ∧ Duo w K3 w' p q (N + 1) M' d' e ∧ Keep K3 W w') := fun K3 e M' a2 k2 W hby hd => by
    have := hd.net (A := fun en => en = .returned (.int .i64 (d.putF nm l).1)) (d' := (d.putF nm l).2) (N' := N + 1) fun J hJ => hJ.does fun _ _ hn => put_any hn hN nm l _ hby hnm
    rwa [hrd0] at this
  have HMD : Hid (∀ (K3 : Bks) (d0 : Dk) N' W, BytesAt W (.slice ua L uc) l → Duo w K3 W p q N' M d0 d → Calls Try.prog 47 #[.pointer (some ⟨q, 0, none⟩), .agg #[.int .i64 1, .string ⟨nm.toArray⟩, .string ⟨to.toArray⟩, .slice ua L uc]] W fun en w' => en = .returned (.int .i64 r) ∧ Duo w K3 w' p q N' (M + 1) d0 d' ∧ Keep K3 W w') := fun K3 d0 N' W hby hd => by
    have := hd.ref (A := fun en => en = .returned (.int .i64 (d.ask 1 nm to l).1)) (e' := (d.ask 1 nm to l).2) (M' := M + 1) fun R hR => ask_any hR hM 1 nm to l ua uc L hL hby (by omega) hl hnm hto
    rwa [hask, hrd0] at this
  have hact : d.act ⟨1, nm, to, l, x, y⟩ = d' := by show (d.putF nm l).2 = d'; rw [hrd0]
  rw [hact]
  have kr : (r == r) = true := by simp
  clear hact hrd0 hask
  clear h hu hL
  go_enter Try.func16, Try.ntmps16
  go_wp2_with (at_builtin; refine wpList_append_place rfl _ _ rfl (wi.heap.size + 1) _ (.slice ua L uc) [] l rfl (by simp [Act.eval]) HMADE.out (HU1.out _ _) (by rw [HL.out]; show 0 + L ≤ 175921860444160; omega) (HS1.out _ _) ?_; intro v2 w2 ho2 hg2 _; obtain ⟨a2, k2, rfl, x0, x1, K3, W3, hW3, hrd⟩ := HREADY.out v2 w2 ho2 hg2; have HRD := Lib.hid hrd; obtain ⟨q0, q1, q2, q3, q4, q5⟩ := x0; have y0 := fun z => (x1 z).1; have y1 := fun z => (x1 z).2.1; have y2 := fun z => (x1 z).2.2.1; have y4 := fun z => (x1 z).2.2.2.2.1; have y5 := fun z => (x1 z).2.2.2.2.2; clear ho2 hg2 hrd x1)
  rw [← hW3]
  clear hW3 q0 q1 q2 q3 q4 q5 y0 y1 y2 y4 y5 e3
  obtain ⟨G, hG⟩ : ∃ G, w2.heap.size = G := ⟨_, rfl⟩
  rw [hG] at HRD ⊢
  clear hG
  have HS : Hid (∀ W, Keep K3 W3 W → (W.cell? ⟨wi.heap.size, 1, none⟩ = some (.string ⟨nm.toArray⟩) ∧ W.cell? ⟨wi.heap.size, 2, none⟩ = some (.string ⟨to.toArray⟩)) ∧ W.cell? ⟨G, 0, none⟩ = some (.int .i64 1) ∧ W.cell? ⟨G, 1, none⟩ = some (.string ⟨nm.toArray⟩) ∧ W.cell? ⟨G, 2, none⟩ = some (.string ⟨to.toArray⟩) ∧ W.cell? ⟨G, 3, none⟩ = some (.slice ua L uc)) := fun W hk => ⟨⟨(HRD.out.xc W hk).2.1, (HRD.out.xc W hk).2.2.1⟩, HRD.out.cc W hk⟩
  have HD0 : Hid (Duo w K3 W3.drew p q N M d d) := HRD.out.duo.still (Below.refl _ _).drew
  have HKD : Hid (Keep K3 W3 W3.drew) := keep_below (Below.refl _ _).drew
  have s0 := HS.out W3 (Keep.refl _ _)
  go_region_held (fun W => (W.cell? ⟨wi.heap.size, 1, none⟩ = some (.string ⟨nm.toArray⟩) ∧ W.cell? ⟨wi.heap.size, 2, none⟩ = some (.string ⟨to.toArray⟩)) ∧ W.cell? ⟨G, 0, none⟩ = some (.int .i64 1) ∧ W.cell? ⟨G, 1, none⟩ = some (.string ⟨nm.toArray⟩) ∧ W.cell? ⟨G, 2, none⟩ = some (.string ⟨to.toArray⟩) ∧ W.cell? ⟨G, 3, none⟩ = some (.slice ua L uc)) ((first | exact s0 | exact s0')) (first
    | (go_at_call 19; refine (HND.out K3 d M a2 k2 _ (HRD.out.own _ HKD.out).2.1 HD0.out).mono ?_; rintro e w5 ⟨rfl, hd2, hk2⟩; have HD2 : Hid (Duo w K3 w5 p q (N + 1) M d' d ∧ Keep K3 W3 w5) := ⟨hd2, HKD.out.trans hk2⟩; have s0' := HS.out w5 HD2.out.2; clear hd2 hk2)
    | (go_at_call 19; refine (HND.out K3 d' (M + 1) a2 k2 _ (HRD.out.own _ HE2.out.2).2.1 HE2.out.1).mono ?_; rintro e w4 ⟨rfl, hd3, hk3⟩; have HD3 : Hid (Duo w K3 w4 p q (N + 1) (M + 1) d' d' ∧ Keep K3 W3 w4) := ⟨hd3, HE2.out.2.trans hk3⟩; have s0' := HS.out w4 HD3.out.2; clear hd3 hk3)
    | (go_at_call 47; refine (HMD.out K3 d' (N + 1) _ (HRD.out.own _ HD2.out.2).2.2 HD2.out.1).mono ?_; rintro e w4 ⟨rfl, hd3, hk3⟩; have HD3 : Hid (Duo w K3 w4 p q (N + 1) (M + 1) d' d' ∧ Keep K3 W3 w4) := ⟨hd3, HD2.out.2.trans hk3⟩; have s0' := HS.out w4 HD3.out.2; clear hd3 hk3)
    | (go_at_call 47; refine (HMD.out K3 d N _ (HRD.out.own _ HKD.out).2.2 HD0.out).mono ?_; rintro e w5 ⟨rfl, hd2, hk2⟩; have HE2 : Hid (Duo w K3 w5 p q N (M + 1) d d' ∧ Keep K3 W3 w5) := ⟨hd2, HKD.out.trans hk2⟩; have s0' := HS.out w5 HE2.out.2; clear hd2 hk2))
  clear s0 s0'
  go_wp2
  have HD4 : Hid (Duo w K3 w4 p q (N + 1) (M + 1) d' d') := HD3.out.1
  have HO4 : Hid (OwnBytes (wi.heap.size + 1) w4 (.slice a2 L k2) l) := (HRD.out.own _ HD3.out.2).1
  have HK4 : Hid (Keep K wi w4) := HRD.out.keep.trans (HD3.out.2.mono fun k hk => (HRD.out.sub k hk).1)
  go_loopw [15] (fun i wr => ∃ k : Nat, k ≤ L ∧ i = .int .i64 (k : Nat) ∧ Hid (∃ l' : Bs, l'.length = L ∧ OwnBytes (wi.heap.size + 1) wr (.slice a2 L k2) l' ∧ Duo w K3 wr p q (N + 1) (M + 1) d' d' ∧ Keep K w4 wr)) (fun i _ => L - (intOf i).toNat)
  case atStart => exact ⟨0, Nat.zero_le _, rfl, l, HL.out, HO4.out, HD4.out, Keep.refl _ _⟩
  case round =>
    obtain ⟨k, hk, rfl, HI⟩ := hrel
    by_cases hlt : k < L
    · obtain ⟨l', hl', ho', hd', hk'⟩ := HI.out
      have hg : ∃ g, a2 = some ⟨g, 0, none⟩ := by
        rcases ho'.2 with ⟨h1, h0⟩ | ⟨g, cap', cur, hv', _⟩
        · omega
        · injection hv' with e1; exact ⟨g, e1⟩
      obtain ⟨g, rfl⟩ := hg
      obtain ⟨⟨z, e0⟩, f0, hs⟩ := ho'.spoil' hl' k hlt
      have HS := Lib.hid hs
      have HDD := Lib.hid (And.intro hd' hk')
      clear hl' ho' hd' hk' hs
      go_wp2
      go_roundw
      case rel =>
        obtain ⟨l'', h1, h2⟩ := HS.out _
        refine ⟨k + 1, by omega, by go_num, l'', h1, h2, ?_, ?_⟩
        · exact (HDD.out.1.write (C := fun j => j = g) ((Chg.refl (fun j => j = g) wr).setCell (p := ⟨g, k, none⟩) (.inl rfl) _) (fun j hj => by subst hj; have := HRD.out.row j rfl; exact ⟨this.1, this.2.1⟩) (fun _ => False) fun _ h => h.elim).narrow fun _ h => .inl h
        · refine HDD.out.2.trans (((Chg.refl (fun j => j = g) wr).setCell (p := ⟨g, k, none⟩) (.inl rfl) _).keep fun j hj hK => ?_)
          subst hj
          have h3 := (HRD.out.row j rfl).2.2
          have h4 := (HRD.out.sub j hK).2
          omega
      case measure => simp [intOf]; omega
    · obtain rfl : k = L := by omega
      obtain ⟨l', hl', ho', hd', hk'⟩ := HI.out
      have HDD := Lib.hid (And.intro hd' hk')
      clear hl' ho' hd' hk'
      go_wp2
      go_ret
      exact ⟨rfl, HDD.out.1.narrow fun j hj => (HRD.out.sub j hj).1, HK4.out.trans HDD.out.2⟩
set_option maxRecDepth 100000 in
set_option maxHeartbeats 8000000 in
theorem act_rename {w : Fr} {wi : World} {K : Bks} {p q N M : Nat} {d : Dk} (h : Duo w K wi p q N M d d) (hN : N ≤ 400000) (hM : M ≤ 400000) (nm to l : Bs) (x y : Int) (ua : Option Addr) (L uc : Nat) (hu : BytesIn K wi (.slice ua L uc) l) (hL : l.length = L) (hl : L ≤ 100000) (hnm : nm.length ≤ maxLen) (hto : to.length ≤ maxLen) :
    Calls Try.prog 16 #[.pointer (some ⟨p, 0, none⟩), .pointer (some ⟨q, 0, none⟩), .agg #[.int .i64 2, .string ⟨nm.toArray⟩, .string ⟨to.toArray⟩, .slice ua L uc, .int .i64 x, .int .i64 y]] wi (ActDoes w K wi p q N M (d.act ⟨2, nm, to, l, x, y⟩)) := by
  have HREADY := Lib.hid (Ready.of h 2 nm to l ua L uc x y hu hL)
  have HMADE : Hid (OwnBytes (wi.heap.size + 1) ((wi.alloc (.cells #[.int .i64 2, .string ⟨nm.toArray⟩, .string ⟨to.toArray⟩, .slice ua L uc, .int .i64 x, .int .i64 y] 33)).alloc (.cells #[] 5)) (.slice (some ⟨wi.heap.size + 1, 0, none⟩) 0 0) []) := by
    have := OwnBytes.made (wi.alloc (.cells #[.int .i64 2, .string ⟨nm.toArray⟩, .string ⟨to.toArray⟩, .slice ua L uc, .int .i64 x, .int .i64 y] 33)) (wi.heap.size + 1) (by rw [World.size_alloc]; omega)
    rw [World.size_alloc] at this
    exact this
  have HU1 : Hid (∀ z z', BytesAt ((wi.alloc z).alloc z') (.slice ua L uc) l) := fun z z' => (hu.at.below (Go.Joins.below_alloc1 wi z) (Nat.le_refl _)).below (Go.Joins.below_alloc1 _ z') (Nat.le_refl _)
  have HS1 : Hid (∀ z z', wi.heap.size + 1 ≤ ((wi.alloc z).alloc z').heap.size) := fun z z' => by rw [World.size_alloc, World.size_alloc]; omega
  have e3 : ∀ z, ((wi.alloc (.cells #[.int .i64 2, .string ⟨nm.toArray⟩, .string ⟨to.toArray⟩, .slice ua L uc, .int .i64 x, .int .i64 y] 33)).alloc z).cell? ⟨wi.heap.size, 3, none⟩ = some (.slice ua L uc) := fun z => by
    have := XBox.cells (wi := wi) (o := 2) (n := nm) (t := to) (u := .slice ua L uc) (x := x) (y := y) (K := fun _ => True) (keep_below (Go.Joins.below_alloc1 _ z)) trivial
    exact this.2.2.2.1
  have HL := Lib.hid hL
  have hask : d.ask 2 nm to l = d.rename nm to := rfl
  obtain ⟨r, d', hrd0⟩ : ∃ r d', d.rename nm to = (r, d') := ⟨_, _, rfl⟩
  have HND : Hid (∀ (K3 : Bks) (e : Dk) M' a2 k2 W, BytesAt W (.slice a2 L k2) l → Duo w K3 W p q N M' d e → Calls Try.prog 20 #[.pointer (some ⟨p, 0, none⟩), .string ⟨nm.toArray⟩, .string ⟨to.toArray⟩] W fun en w' => en = .returned (.int .i64 r) ∧ Duo w K3 w' p q (N + 1) M' d' e ∧ Keep K3 W w') := fun K3 e M' a2 k2 W hby hd => by
    have := hd.net (A := fun en => en = .returned (.int .i64 (d.rename nm to).1)) (d' := (d.rename nm to).2) (N' := N + 1) fun J hJ => hJ.does fun _ _ hn => rename_any hn hN nm to hnm hto
    rwa [hrd0] at this
  have HMD : Hid (∀ (K3 : Bks) (d0 : Dk) N' W, BytesAt W (.slice ua L uc) l → Duo w K3 W p q N' M d0 d → Calls Try.prog 47 #[.pointer (some ⟨q, 0, none⟩), .agg #[.int .i64 2, .string ⟨nm.toArray⟩, .string ⟨to.toArray⟩, .slice ua L uc]] W fun en w' => en = .returned (.int .i64 r) ∧ Duo w K3 w' p q N' (M + 1) d0 d' ∧ Keep K3 W w') := fun K3 d0 N' W hby hd => by
    have := hd.ref (A := fun en => en = .returned (.int .i64 (d.ask 2 nm to l).1)) (e' := (d.ask 2 nm to l).2) (M' := M + 1) fun R hR => ask_any hR hM 2 nm to l ua uc L hL hby (by omega) hl hnm hto
    rwa [hask, hrd0] at this
  have hact : d.act ⟨2, nm, to, l, x, y⟩ = d' := by show (d.rename nm to).2 = d'; rw [hrd0]
  rw [hact]
  have kr : (r == r) = true := by simp
  clear hact hrd0 hask
  clear h hu hL
  go_enter Try.func16, Try.ntmps16
  go_wp2_with (at_builtin; refine wpList_append_place rfl _ _ rfl (wi.heap.size + 1) _ (.slice ua L uc) [] l rfl (by simp [Act.eval]) HMADE.out (HU1.out _ _) (by rw [HL.out]; show 0 + L ≤ 175921860444160; omega) (HS1.out _ _) ?_; intro v2 w2 ho2 hg2 _; obtain ⟨a2, k2, rfl, x0, x1, K3, W3, hW3, hrd⟩ := HREADY.out v2 w2 ho2 hg2; have HRD := Lib.hid hrd; obtain ⟨q0, q1, q2, q3, q4, q5⟩ := x0; have y0 := fun z => (x1 z).1; have y1 := fun z => (x1 z).2.1; have y2 := fun z => (x1 z).2.2.1; have y4 := fun z => (x1 z).2.2.2.2.1; have y5 := fun z => (x1 z).2.2.2.2.2; clear ho2 hg2 hrd x1)
  rw [← hW3]
  clear hW3 q0 q1 q2 q3 q4 q5 y0 y1 y2 y4 y5 e3
  obtain ⟨G, hG⟩ : ∃ G, w2.heap.size = G := ⟨_, rfl⟩
  rw [hG] at HRD ⊢
  clear hG
  have HS : Hid (∀ W, Keep K3 W3 W → (W.cell? ⟨wi.heap.size, 1, none⟩ = some (.string ⟨nm.toArray⟩) ∧ W.cell? ⟨wi.heap.size, 2, none⟩ = some (.string ⟨to.toArray⟩)) ∧ W.cell? ⟨G, 0, none⟩ = some (.int .i64 2) ∧ W.cell? ⟨G, 1, none⟩ = some (.string ⟨nm.toArray⟩) ∧ W.cell? ⟨G, 2, none⟩ = some (.string ⟨to.toArray⟩) ∧ W.cell? ⟨G, 3, none⟩ = some (.slice ua L uc)) := fun W hk => ⟨⟨(HRD.out.xc W hk).2.1, (HRD.out.xc W hk).2.2.1⟩, HRD.out.cc W hk⟩
  have HD0 : Hid (Duo w K3 W3.drew p q N M d d) := HRD.out.duo.still (Below.refl _ _).drew
  have HKD : Hid (Keep K3 W3 W3.drew) := keep_below (Below.refl _ _).drew
  have s0 := HS.out W3 (Keep.refl _ _)
  go_region_held (fun W => (W.cell? ⟨wi.heap.size, 1, none⟩ = some (.string ⟨nm.toArray⟩) ∧ W.cell? ⟨wi.heap.size, 2, none⟩ = some (.string ⟨to.toArray⟩)) ∧ W.cell? ⟨G, 0, none⟩ = some (.int .i64 2) ∧ W.cell? ⟨G, 1, none⟩ = some (.string ⟨nm.toArray⟩) ∧ W.cell? ⟨G, 2, none⟩ = some (.string ⟨to.toArray⟩) ∧ W.cell? ⟨G, 3, none⟩ = some (.slice ua L uc)) ((first | exact s0 | exact s0')) (first
    | (go_at_call 20; refine (HND.out K3 d M a2 k2 _ (HRD.out.own _ HKD.out).2.1 HD0.out).mono ?_; rintro e w5 ⟨rfl, hd2, hk2⟩; have HD2 : Hid (Duo w K3 w5 p q (N + 1) M d' d ∧ Keep K3 W3 w5) := ⟨hd2, HKD.out.trans hk2⟩; have s0' := HS.out w5 HD2.out.2; clear hd2 hk2)
    | (go_at_call 20; refine (HND.out K3 d' (M + 1) a2 k2 _ (HRD.out.own _ HE2.out.2).2.1 HE2.out.1).mono ?_; rintro e w4 ⟨rfl, hd3, hk3⟩; have HD3 : Hid (Duo w K3 w4 p q (N + 1) (M + 1) d' d' ∧ Keep K3 W3 w4) := ⟨hd3, HE2.out.2.trans hk3⟩; have s0' := HS.out w4 HD3.out.2; clear hd3 hk3)
    | (go_at_call 47; refine (HMD.out K3 d' (N + 1) _ (HRD.out.own _ HD2.out.2).2.2 HD2.out.1).mono ?_; rintro e w4 ⟨rfl, hd3, hk3⟩; have HD3 : Hid (Duo w K3 w4 p q (N + 1) (M + 1) d' d' ∧ Keep K3 W3 w4) := ⟨hd3, HD2.out.2.trans hk3⟩; have s0' := HS.out w4 HD3.out.2; clear hd3 hk3)
    | (go_at_call 47; refine (HMD.out K3 d N _ (HRD.out.own _ HKD.out).2.2 HD0.out).mono ?_; rintro e w5 ⟨rfl, hd2, hk2⟩; have HE2 : Hid (Duo w K3 w5 p q N (M + 1) d d' ∧ Keep K3 W3 w5) := ⟨hd2, HKD.out.trans hk2⟩; have s0' := HS.out w5 HE2.out.2; clear hd2 hk2))
  all_goals go_wp2
  all_goals go_ret
  all_goals (have hx := HRD.out.done HD3.out.1 (Nat.le_refl _) (Nat.le_refl _) HD3.out.2; simpa [kr] using hx)
set_option maxRecDepth 100000 in
set_option maxHeartbeats 8000000 in
theorem act_remove {w : Fr} {wi : World} {K : Bks} {p q N M : Nat} {d : Dk} (h : Duo w K wi p q N M d d) (hN : N ≤ 400000) (hM : M ≤ 400000) (nm to l : Bs) (x y : Int) (ua : Option Addr) (L uc : Nat) (hu : BytesIn K wi (.slice ua L uc) l) (hL : l.length = L) (hl : L ≤ 100000) (hnm : nm.length ≤ maxLen) (hto : to.length ≤ maxLen) :
    Calls Try.prog 16 #[.pointer (some ⟨p, 0, none⟩), .pointer (some ⟨q, 0, none⟩), .agg #[.int .i64 3, .string ⟨nm.toArray⟩, .string ⟨to.toArray⟩, .slice ua L uc, .int .i64 x, .int .i64 y]] wi (ActDoes w K wi p q N M (d.act ⟨3, nm, to, l, x, y⟩)) := by
  have HREADY := Lib.hid (Ready.of h 3 nm to l ua L uc x y hu hL)
  have HMADE : Hid (OwnBytes (wi.heap.size + 1) ((wi.alloc (.cells #[.int .i64 3, .string ⟨nm.toArray⟩, .string ⟨to.toArray⟩, .slice ua L uc, .int .i64 x, .int .i64 y] 33)).alloc (.cells #[] 5)) (.slice (some ⟨wi.heap.size + 1, 0, none⟩) 0 0) []) := by
    have := OwnBytes.made (wi.alloc (.cells #[.int .i64 3, .string ⟨nm.toArray⟩, .string ⟨to.toArray⟩, .slice ua L uc, .int .i64 x, .int .i64 y] 33)) (wi.heap.size + 1) (by rw [World.size_alloc]; omega)
    rw [World.size_alloc] at this
    exact this
  have HU1 : Hid (∀ z z', BytesAt ((wi.alloc z).alloc z') (.slice ua L uc) l) := fun z z' => (hu.at.below (Go.Joins.below_alloc1 wi z) (Nat.le_refl _)).below (Go.Joins.below_alloc1 _ z') (Nat.le_refl _)
  have HS1 : Hid (∀ z z', wi.heap.size + 1 ≤ ((wi.alloc z).alloc z').heap.size) := fun z z' => by rw [World.size_alloc, World.size_alloc]; omega
  have e3 : ∀ z, ((wi.alloc (.cells #[.int .i64 3, .string ⟨nm.toArray⟩, .string ⟨to.toArray⟩, .slice ua L uc, .int .i64 x, .int .i64 y] 33)).alloc z).cell? ⟨wi.heap.size, 3, none⟩ = some (.slice ua L uc) := fun z => by
    have := XBox.cells (wi := wi) (o := 3) (n := nm) (t := to) (u := .slice ua L uc) (x := x) (y := y) (K := fun _ => True) (keep_below (Go.Joins.below_alloc1 _ z)) trivial
    exact this.2.2.2.1
  have HL := Lib.hid hL
  have hask : d.ask 3 nm to l = d.remove nm := rfl
  obtain ⟨r, d', hrd0⟩ : ∃ r d', d.remove nm = (r, d') := ⟨_, _, rfl⟩
  have HND : Hid (∀ (K3 : Bks) (e : Dk) M' a2 k2 W, BytesAt W (.slice a2 L k2) l → Duo w K3 W p q N M' d e → Calls Try.prog 21 #[.pointer (some ⟨p, 0, none⟩), .string ⟨nm.toArray⟩] W fun en w' => en = .returned (.int .i64 r) ∧ Duo w K3 w' p q (N + 1) M' d' e ∧ Keep K3 W w') := fun K3 e M' a2 k2 W hby hd => by
    have := hd.net (A := fun en => en = .returned (.int .i64 (d.remove nm).1)) (d' := (d.remove nm).2) (N' := N + 1) fun J hJ => hJ.does fun _ _ hn => remove_any hn hN nm hnm
    rwa [hrd0] at this
  have HMD : Hid (∀ (K3 : Bks) (d0 : Dk) N' W, BytesAt W (.slice ua L uc) l → Duo w K3 W p q N' M d0 d → Calls Try.prog 47 #[.pointer (some ⟨q, 0, none⟩), .agg #[.int .i64 3, .string ⟨nm.toArray⟩, .string ⟨to.toArray⟩, .slice ua L uc]] W fun en w' => en = .returned (.int .i64 r) ∧ Duo w K3 w' p q N' (M + 1) d0 d' ∧ Keep K3 W w') := fun K3 d0 N' W hby hd => by
    have := hd.ref (A := fun en => en = .returned (.int .i64 (d.ask 3 nm to l).1)) (e' := (d.ask 3 nm to l).2) (M' := M + 1) fun R hR => ask_any hR hM 3 nm to l ua uc L hL hby (by omega) hl hnm hto
    rwa [hask, hrd0] at this
  have hact : d.act ⟨3, nm, to, l, x, y⟩ = d' := by show (d.remove nm).2 = d'; rw [hrd0]
  rw [hact]
  have kr : (r == r) = true := by simp
  clear hact hrd0 hask
  clear h hu hL
  go_enter Try.func16, Try.ntmps16
  go_wp2_with (at_builtin; refine wpList_append_place rfl _ _ rfl (wi.heap.size + 1) _ (.slice ua L uc) [] l rfl (by simp [Act.eval]) HMADE.out (HU1.out _ _) (by rw [HL.out]; show 0 + L ≤ 175921860444160; omega) (HS1.out _ _) ?_; intro v2 w2 ho2 hg2 _; obtain ⟨a2, k2, rfl, x0, x1, K3, W3, hW3, hrd⟩ := HREADY.out v2 w2 ho2 hg2; have HRD := Lib.hid hrd; obtain ⟨q0, q1, q2, q3, q4, q5⟩ := x0; have y0 := fun z => (x1 z).1; have y1 := fun z => (x1 z).2.1; have y2 := fun z => (x1 z).2.2.1; have y4 := fun z => (x1 z).2.2.2.2.1; have y5 := fun z => (x1 z).2.2.2.2.2; clear ho2 hg2 hrd x1)
  rw [← hW3]
  clear hW3 q0 q1 q2 q3 q4 q5 y0 y1 y2 y4 y5 e3
  obtain ⟨G, hG⟩ : ∃ G, w2.heap.size = G := ⟨_, rfl⟩
  rw [hG] at HRD ⊢
  clear hG
  have HS : Hid (∀ W, Keep K3 W3 W → (W.cell? ⟨wi.heap.size, 1, none⟩ = some (.string ⟨nm.toArray⟩) ∧ W.cell? ⟨wi.heap.size, 2, none⟩ = some (.string ⟨to.toArray⟩)) ∧ W.cell? ⟨G, 0, none⟩ = some (.int .i64 3) ∧ W.cell? ⟨G, 1, none⟩ = some (.string ⟨nm.toArray⟩) ∧ W.cell? ⟨G, 2, none⟩ = some (.string ⟨to.toArray⟩) ∧ W.cell? ⟨G, 3, none⟩ = some (.slice ua L uc)) := fun W hk => ⟨⟨(HRD.out.xc W hk).2.1, (HRD.out.xc W hk).2.2.1⟩, HRD.out.cc W hk⟩
  have HD0 : Hid (Duo w K3 W3.drew p q N M d d) := HRD.out.duo.still (Below.refl _ _).drew
  have HKD : Hid (Keep K3 W3 W3.drew) := keep_below (Below.refl _ _).drew
  have s0 := HS.out W3 (Keep.refl _ _)
  go_region_held (fun W => (W.cell? ⟨wi.heap.size, 1, none⟩ = some (.string ⟨nm.toArray⟩) ∧ W.cell? ⟨wi.heap.size, 2, none⟩ = some (.string ⟨to.toArray⟩)) ∧ W.cell? ⟨G, 0, none⟩ = some (.int .i64 3) ∧ W.cell? ⟨G, 1, none⟩ = some (.string ⟨nm.toArray⟩) ∧ W.cell? ⟨G, 2, none⟩ = some (.string ⟨to.toArray⟩) ∧ W.cell? ⟨G, 3, none⟩ = some (.slice ua L uc)) ((first | exact s0 | exact s0')) (first
    | (go_at_call 21; refine (HND.out K3 d M a2 k2 _ (HRD.out.own _ HKD.out).2.1 HD0.out).mono ?_; rintro e w5 ⟨rfl, hd2, hk2⟩; have HD2 : Hid (Duo w K3 w5 p q (N + 1) M d' d ∧ Keep K3 W3 w5) := ⟨hd2, HKD.out.trans hk2⟩; have s0' := HS.out w5 HD2.out.2; clear hd2 hk2)
    | (go_at_call 21; refine (HND.out K3 d' (M + 1) a2 k2 _ (HRD.out.own _ HE2.out.2).2.1 HE2.out.1).mono ?_; rintro e w4 ⟨rfl, hd3, hk3⟩; have HD3 : Hid (Duo w K3 w4 p q (N + 1) (M + 1) d' d' ∧ Keep K3 W3 w4) := ⟨hd3, HE2.out.2.trans hk3⟩; have s0' := HS.out w4 HD3.out.2; clear hd3 hk3)
    | (go_at_call 47; refine (HMD.out K3 d' (N + 1) _ (HRD.out.own _ HD2.out.2).2.2 HD2.out.1).mono ?_; rintro e w4 ⟨rfl, hd3, hk3⟩; have HD3 : Hid (Duo w K3 w4 p q (N + 1) (M + 1) d' d' ∧ Keep K3 W3 w4) := ⟨hd3, HD2.out.2.trans hk3⟩; have s0' := HS.out w4 HD3.out.2; clear hd3 hk3)
    | (go_at_call 47; refine (HMD.out K3 d N _ (HRD.out.own _ HKD.out).2.2 HD0.out).mono ?_; rintro e w5 ⟨rfl, hd2, hk2⟩; have HE2 : Hid (Duo w K3 w5 p q N (M + 1) d d' ∧ Keep K3 W3 w5) := ⟨hd2, HKD.out.trans hk2⟩; have s0' := HS.out w5 HE2.out.2; clear hd2 hk2))
  all_goals go_wp2
  all_goals go_ret
  all_goals (have hx := HRD.out.done HD3.out.1 (Nat.le_refl _) (Nat.le_refl _) HD3.out.2; simpa [kr] using hx)
end Go.Proofs.Yticbfnflillokaa
