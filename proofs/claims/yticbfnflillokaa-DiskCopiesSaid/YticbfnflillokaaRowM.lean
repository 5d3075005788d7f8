/- act: Sync, Start, Wipe, whatever is none, Read. -/
import Derived.Test.YticbfnflillokaaRowH
namespace Go.Proofs.Yticbfnflillokaa
open Go.RowKit
set_option maxRecDepth 100000 in
set_option maxHeartbeats 8000000 in
theorem act_sync {w : Fr} {wi : World} {K : Bks} {p q N M : Nat} {d : Dk} (h : Duo w K wi p q N M d d) (hN : N ≤ 400000) (hM : M ≤ 400000) (nm to l : Bs) (x y : Int) (ua : Option Addr) (L uc : Nat) (hu : BytesIn K wi (.slice ua L uc) l) (hL : l.length = L) (hl : L ≤ 100000) (hnm : nm.length ≤ maxLen) (hto : to.length ≤ maxLen) :
    Calls Try.prog 16 #[.pointer (some ⟨p, 0, none⟩), .pointer (some ⟨q, 0, none⟩), .agg #[.int .i64 4, .string ⟨nm.toArray⟩, .string ⟨to.toArray⟩, .slice ua L uc, .int .i64 x, .int .i64 y]] wi (ActDoes w K wi p q N M (d.act ⟨4, nm, to, l, x, y⟩)) := by
  have hused := And.intro hN (And.intro hM (And.intro hl (And.intro hnm hto)))
  clear hused
  have HREADY := Lib.hid (Ready.of h 4 nm to l ua L uc x y hu hL)
  have HMADE : Hid (OwnBytes (wi.heap.size + 1) ((wi.alloc (.cells #[.int .i64 4, .string ⟨nm.toArray⟩, .string ⟨to.toArray⟩, .slice ua L uc, .int .i64 x, .int .i64 y] 33)).alloc (.cells #[] 5)) (.slice (some ⟨wi.heap.size + 1, 0, none⟩) 0 0) []) := by
    have := OwnBytes.made (wi.alloc (.cells #[.int .i64 4, .string ⟨nm.toArray⟩, .string ⟨to.toArray⟩, .slice ua L uc, .int .i64 x, .int .i64 y] 33)) (wi.heap.size + 1) (by rw [World.size_alloc]; omega)
    rw [World.size_alloc] at this
    exact this
  have HU1 : Hid (∀ z z', BytesAt ((wi.alloc z).alloc z') (.slice ua L uc) l) := fun z z' => (hu.at.below (Go.Joins.below_alloc1 wi z) (Nat.le_refl _)).below (Go.Joins.below_alloc1 _ z') (Nat.le_refl _)
  have HS1 : Hid (∀ z z', wi.heap.size + 1 ≤ ((wi.alloc z).alloc z').heap.size) := fun z z' => by rw [World.size_alloc, World.size_alloc]; omega
  have e3 : ∀ z, ((wi.alloc (.cells #[.int .i64 4, .string ⟨nm.toArray⟩, .string ⟨to.toArray⟩, .slice ua L uc, .int .i64 x, .int .i64 y] 33)).alloc z).cell? ⟨wi.heap.size, 3, none⟩ = some (.slice ua L uc) := fun z => by
    have := XBox.cells (wi := wi) (o := 4) (n := nm) (t := to) (u := .slice ua L uc) (x := x) (y := y) (K := fun _ => True) (keep_below (Go.Joins.below_alloc1 _ z)) trivial
    exact this.2.2.2.1
  have HL := Lib.hid hL
  obtain ⟨r, d', hrd0⟩ : ∃ r d', d.sync = (r, d') := ⟨_, _, rfl⟩
  have HND : Hid (∀ (K3 : Bks) W, Duo w K3 W p q N M d d → Calls Try.prog 22 #[.pointer (some ⟨p, 0, none⟩)] W fun en w' => en = .returned (.int .i64 r) ∧ Duo w K3 w' p q (N + 1) M d' d ∧ Keep K3 W w') := fun K3 W hd => by
    have := hd.net (A := fun en => en = .returned (.int .i64 (d.sync).1)) (d' := (d.sync).2) (N' := N + 1) fun J hJ => hJ.does fun _ _ hn => sync_any hn hN
    rwa [hrd0] at this
  have HMD : Hid (∀ (K3 : Bks) W, Duo w K3 W p q (N + 1) M d' d → Calls Try.prog 48 #[.pointer (some ⟨q, 0, none⟩)] W fun en w' => en = .returned (.int .i64 r) ∧ Duo w K3 w' p q (N + 1) (M + 1) d' d' ∧ Keep K3 W w') := fun K3 W hd => by
    have := hd.ref (A := fun en => en = .returned (.int .i64 (d.sync).1)) (e' := (d.sync).2) (M' := M + 1) fun R hR => rsync_any hR hM
    rwa [hrd0] at this
  have hact : d.act ⟨4, nm, to, l, x, y⟩ = d' := by show (d.sync).2 = d'; rw [hrd0]
  rw [hact]
  have kr : (r == r) = true := by simp
  clear hact hrd0 hnm hto
  clear h hu hL
  go_enter Try.func16, Try.ntmps16
  go_wp2_with (at_builtin; refine wpList_append_place rfl _ _ rfl (wi.heap.size + 1) _ (.slice ua L uc) [] l rfl (by simp [Act.eval]) HMADE.out (HU1.out _ _) (by rw [HL.out]; show 0 + L ≤ 175921860444160; omega) (HS1.out _ _) ?_; intro v2 w2 ho2 hg2 _; obtain ⟨a2, k2, rfl, x0, x1, K3, W3, hW3, hrd⟩ := HREADY.out v2 w2 ho2 hg2; have HRD := Lib.hid hrd; obtain ⟨q0, q1, q2, q3, q4, q5⟩ := x0; have y0 := fun z => (x1 z).1; have y1 := fun z => (x1 z).2.1; have y2 := fun z => (x1 z).2.2.1; have y4 := fun z => (x1 z).2.2.2.2.1; have y5 := fun z => (x1 z).2.2.2.2.2; clear ho2 hg2 hrd x1)
  rw [← hW3]
  clear hW3 q0 q1 q2 q3 q4 q5 y0 y1 y2 y4 y5 e3
  obtain ⟨G, hG⟩ : ∃ G, w2.heap.size = G := ⟨_, rfl⟩
  rw [hG] at HRD ⊢
  clear hG
  refine (HND.out K3 W3 HRD.out.duo).mono ?_
  rintro e w5 ⟨rfl, hd2, hk2⟩
  have HD2 := Lib.hid (And.intro hd2 hk2)
  clear hd2 hk2
  go_wp2_with fail
  refine (HMD.out K3 w5 HD2.out.1).mono ?_
  rintro e w4 ⟨rfl, hd3, hk3⟩
  have HD3 := Lib.hid (And.intro hd3 (HD2.out.2.trans hk3))
  clear hd3 hk3
  go_wp2
  go_ret
  have hx := HRD.out.done HD3.out.1 (Nat.le_refl _) (Nat.le_refl _) HD3.out.2
  simpa [kr] using hx
set_option maxRecDepth 100000 in
set_option maxHeartbeats 8000000 in
theorem act_start {w : Fr} {wi : World} {K : Bks} {p q N M : Nat} {d : Dk} (h : Duo w K wi p q N M d d) (hN : N ≤ 400000) (hM : M ≤ 400000) (nm to l : Bs) (x y : Int) (ua : Option Addr) (L uc : Nat) (hu : BytesIn K wi (.slice ua L uc) l) (hL : l.length = L) (hl : L ≤ 100000) (hnm : nm.length ≤ maxLen) (hto : to.length ≤ maxLen) :
    Calls Try.prog 16 #[.pointer (some ⟨p, 0, none⟩), .pointer (some ⟨q, 0, none⟩), .agg #[.int .i64 7, .string ⟨nm.toArray⟩, .string ⟨to.toArray⟩, .slice ua L uc, .int .i64 x, .int .i64 y]] wi (ActDoes w K wi p q N M (d.act ⟨7, nm, to, l, x, y⟩)) := by
  have hused := And.intro hN (And.intro hM (And.intro hl (And.intro hnm hto)))
  clear hused
  have HREADY := Lib.hid (Ready.of h 7 nm to l ua L uc x y hu hL)
  have HMADE : Hid (OwnBytes (wi.heap.size + 1) ((wi.alloc (.cells #[.int .i64 7, .string ⟨nm.toArray⟩, .string ⟨to.toArray⟩, .slice ua L uc, .int .i64 x, .int .i64 y] 33)).alloc (.cells #[] 5)) (.slice (some ⟨wi.heap.size + 1, 0, none⟩) 0 0) []) := by
    have := OwnBytes.made (wi.alloc (.cells #[.int .i64 7, .string ⟨nm.toArray⟩, .string ⟨to.toArray⟩, .slice ua L uc, .int .i64 x, .int .i64 y] 33)) (wi.heap.size + 1) (by rw [World.size_alloc]; omega)
    rw [World.size_alloc] at this
    exact this
  have HU1 : Hid (∀ z z', BytesAt ((wi.alloc z).alloc z') (.slice ua L uc) l) := fun z z' => (hu.at.below (Go.Joins.below_alloc1 wi z) (Nat.le_refl _)).below (Go.Joins.below_alloc1 _ z') (Nat.le_refl _)
  have HS1 : Hid (∀ z z', wi.heap.size + 1 ≤ ((wi.alloc z).alloc z').heap.size) := fun z z' => by rw [World.size_alloc, World.size_alloc]; omega
  have e3 : ∀ z, ((wi.alloc (.cells #[.int .i64 7, .string ⟨nm.toArray⟩, .string ⟨to.toArray⟩, .slice ua L uc, .int .i64 x, .int .i64 y] 33)).alloc z).cell? ⟨wi.heap.size, 3, none⟩ = some (.slice ua L uc) := fun z => by
    have := XBox.cells (wi := wi) (o := 7) (n := nm) (t := to) (u := .slice ua L uc) (x := x) (y := y) (K := fun _ => True) (keep_below (Go.Joins.below_alloc1 _ z)) trivial
    exact this.2.2.2.1
  have HL := Lib.hid hL
  obtain ⟨r, d', hrd0⟩ : ∃ r d', d.start = (r, d') := ⟨_, _, rfl⟩
  have HND : Hid (∀ (K3 : Bks) W, Duo w K3 W p q N M d d → Calls Try.prog 24 #[.pointer (some ⟨p, 0, none⟩)] W fun en w' => en = .returned (.int .i64 r) ∧ Duo w K3 w' p q (N + 1) M d' d ∧ Keep K3 W w') := fun K3 W hd => by
    have := hd.net (A := fun en => en = .returned (.int .i64 (d.start).1)) (d' := (d.start).2) (N' := N + 1) fun J hJ => hJ.does fun _ _ hn => start_any hn
    rwa [hrd0] at this
  have HMD : Hid (∀ (K3 : Bks) W, Duo w K3 W p q (N + 1) M d' d → Calls Try.prog 51 #[.pointer (some ⟨q, 0, none⟩)] W fun en w' => en = .returned (.int .i64 r) ∧ Duo w K3 w' p q (N + 1) (M + 1) d' d' ∧ Keep K3 W w') := fun K3 W hd => by
    have := hd.ref (A := fun en => en = .returned (.int .i64 (d.start).1)) (e' := (d.start).2) (M' := M + 1) fun R hR => rstart_any hR
    rwa [hrd0] at this
  have hact : d.act ⟨7, nm, to, l, x, y⟩ = d' := by show (d.start).2 = d'; rw [hrd0]
  rw [hact]
  have kr : (r == r) = true := by simp
  clear hact hrd0 hnm hto
  clear h hu hL
  go_enter Try.func16, Try.ntmps16
  go_wp2_with (at_builtin; refine wpList_append_place rfl _ _ rfl (wi.heap.size + 1) _ (.slice ua L uc) [] l rfl (by simp [Act.eval]) HMADE.out (HU1.out _ _) (by rw [HL.out]; show 0 + L ≤ 175921860444160; omega) (HS1.out _ _) ?_; intro v2 w2 ho2 hg2 _; obtain ⟨a2, k2, rfl, x0, x1, K3, W3, hW3, hrd⟩ := HREADY.out v2 w2 ho2 hg2; have HRD := Lib.hid hrd; obtain ⟨q0, q1, q2, q3, q4, q5⟩ := x0; have y0 := fun z => (x1 z).1; have y1 := fun z => (x1 z).2.1; have y2 := fun z => (x1 z).2.2.1; have y4 := fun z => (x1 z).2.2.2.2.1; have y5 := fun z => (x1 z).2.2.2.2.2; clear ho2 hg2 hrd x1)
  rw [← hW3]
  clear hW3 q0 q1 q2 q3 q4 q5 y0 y1 y2 y4 y5 e3
  obtain ⟨G, hG⟩ : ∃ G, w2.heap.size = G := ⟨_, rfl⟩
  rw [hG] at HRD ⊢
  clear hG
  refine (HND.out K3 W3 HRD.out.duo).mono ?_
  rintro e w5 ⟨rfl, hd2, hk2⟩
  have HD2 := Lib.hid (And.intro hd2 hk2)
  clear hd2 hk2
  go_wp2_with fail
  refine (HMD.out K3 w5 HD2.out.1).mono ?_
  rintro e w4 ⟨rfl, hd3, hk3⟩
  have HD3 := Lib.hid (And.intro hd3 (HD2.out.2.trans hk3))
  clear hd3 hk3
  go_wp2
  go_ret
  have hx := HRD.out.done HD3.out.1 (Nat.le_refl _) (Nat.le_refl _) HD3.out.2
  simpa [kr] using hx
set_option maxRecDepth 100000 in
set_option maxHeartbeats 8000000 in
theorem act_wipe {w : Fr} {wi : World} {K : Bks} {p q N M : Nat} {d : Dk} (h : Duo w K wi p q N M d d) (hN : N ≤ 400000) (hM : M ≤ 400000) (nm to l : Bs) (x y : Int) (ua : Option Addr) (L uc : Nat) (hu : BytesIn K wi (.slice ua L uc) l) (hL : l.length = L) (hl : L ≤ 100000) (hnm : nm.length ≤ maxLen) (hto : to.length ≤ maxLen) :
    Calls Try.prog 16 #[.pointer (some ⟨p, 0, none⟩), .pointer (some ⟨q, 0, none⟩), .agg #[.int .i64 8, .string ⟨nm.toArray⟩, .string ⟨to.toArray⟩, .slice ua L uc, .int .i64 x, .int .i64 y]] wi (ActDoes w K wi p q N M (d.act ⟨8, nm, to, l, x, y⟩)) := by
  have hused := And.intro hN (And.intro hM (And.intro hl (And.intro hnm hto)))
  clear hused
  have HREADY := Lib.hid (Ready.of h 8 nm to l ua L uc x y hu hL)
  have HMADE : Hid (OwnBytes (wi.heap.size + 1) ((wi.alloc (.cells #[.int .i64 8, .string ⟨nm.toArray⟩, .string ⟨to.toArray⟩, .slice ua L uc, .int .i64 x, .int .i64 y] 33)).alloc (.cells #[] 5)) (.slice (some ⟨wi.heap.size + 1, 0, none⟩) 0 0) []) := by
    have := OwnBytes.made (wi.alloc (.cells #[.int .i64 8, .string ⟨nm.toArray⟩, .string ⟨to.toArray⟩, .slice ua L uc, .int .i64 x, .int .i64 y] 33)) (wi.heap.size + 1) (by rw [World.size_alloc]; omega)
    rw [World.size_alloc] at this
    exact this
  have HU1 : Hid (∀ z z', BytesAt ((wi.alloc z).alloc z') (.slice ua L uc) l) := fun z z' => (hu.at.below (Go.Joins.below_alloc1 wi z) (Nat.le_refl _)).below (Go.Joins.below_alloc1 _ z') (Nat.le_refl _)
  have HS1 : Hid (∀ z z', wi.heap.size + 1 ≤ ((wi.alloc z).alloc z').heap.size) := fun z z' => by rw [World.size_alloc, World.size_alloc]; omega
  have e3 : ∀ z, ((wi.alloc (.cells #[.int .i64 8, .string ⟨nm.toArray⟩, .string ⟨to.toArray⟩, .slice ua L uc, .int .i64 x, .int .i64 y] 33)).alloc z).cell? ⟨wi.heap.size, 3, none⟩ = some (.slice ua L uc) := fun z => by
    have := XBox.cells (wi := wi) (o := 8) (n := nm) (t := to) (u := .slice ua L uc) (x := x) (y := y) (K := fun _ => True) (keep_below (Go.Joins.below_alloc1 _ z)) trivial
    exact this.2.2.2.1
  have HL := Lib.hid hL
  have HND : Hid (∀ (K3 : Bks) W, Duo w K3 W p q N M d d → Calls Try.prog 15 #[.pointer (some ⟨p, 0, none⟩)] W fun en w' => en = .returned (.tuple #[]) ∧ Duo w K3 w' p q (N + 1) M d.wipe d ∧ Keep K3 W w') := fun K3 W hd =>
    hd.net (A := fun en => en = .returned (.tuple #[])) (d' := d.wipe) (N' := N + 1) fun J hJ => hJ.wipe hN
  have HMD : Hid (∀ (K3 : Bks) W, Duo w K3 W p q (N + 1) M d.wipe d → Calls Try.prog 52 #[.pointer (some ⟨q, 0, none⟩)] W fun en w' => en = .returned (.tuple #[]) ∧ Duo w K3 w' p q (N + 1) (M + 1) d.wipe d.wipe ∧ Keep K3 W w') := fun K3 W hd =>
    hd.ref (A := fun en => en = .returned (.tuple #[])) (e' := d.wipe) (M' := M + 1) fun R hR => rwipe_any hR hM
  have hact : d.act ⟨8, nm, to, l, x, y⟩ = d.wipe := rfl
  rw [hact]
  obtain ⟨d', hd'⟩ : ∃ d', d.wipe = d' := ⟨_, rfl⟩
  rw [hd'] at HND HMD ⊢
  clear hact hd' hnm hto
  clear h hu hL
  go_enter Try.func16, Try.ntmps16
  go_wp2_with (at_builtin; refine wpList_append_place rfl _ _ rfl (wi.heap.size + 1) _ (.slice ua L uc) [] l rfl (by simp [Act.eval]) HMADE.out (HU1.out _ _) (by rw [HL.out]; show 0 + L ≤ 175921860444160; omega) (HS1.out _ _) ?_; intro v2 w2 ho2 hg2 _; obtain ⟨a2, k2, rfl, x0, x1, K3, W3, hW3, hrd⟩ := HREADY.out v2 w2 ho2 hg2; have HRD := Lib.hid hrd; obtain ⟨q0, q1, q2, q3, q4, q5⟩ := x0; have y0 := fun z => (x1 z).1; have y1 := fun z => (x1 z).2.1; have y2 := fun z => (x1 z).2.2.1; have y4 := fun z => (x1 z).2.2.2.2.1; have y5 := fun z => (x1 z).2.2.2.2.2; clear ho2 hg2 hrd x1)
  rw [← hW3]
  clear hW3 q0 q1 q2 q3 q4 q5 y0 y1 y2 y4 y5 e3
  obtain ⟨G, hG⟩ : ∃ G, w2.heap.size = G := ⟨_, rfl⟩
  rw [hG] at HRD ⊢
  clear hG
  refine (HND.out K3 W3 HRD.out.duo).mono ?_
  rintro e w5 ⟨rfl, hd2, hk2⟩
  have HD2 := Lib.hid (And.intro hd2 hk2)
  clear hd2 hk2
  go_wp2_with fail
  refine (HMD.out K3 w5 HD2.out.1).mono ?_
  rintro e w4 ⟨rfl, hd3, hk3⟩
  have HD3 := Lib.hid (And.intro hd3 (HD2.out.2.trans hk3))
  clear hd3 hk3
  go_wp2
  have HD4 : Hid (Duo w K3 w4 p q (N + 1) (M + 1) d' d') := HD3.out.1
  have HO4 : Hid (OwnBytes (wi.heap.size + 1) w4 (.slice a2 L k2) l) := (HRD.out.own _ HD3.out.2).1
  have HK4 : Hid (Keep K wi w4) := HRD.out.keep.trans (HD3.out.2.mono fun k hk => (HRD.out.sub k hk).1)
  go_loopw [15] (fun i wr => ∃ k : Nat, k ≤ L ∧ i = .int .i64 (k : Nat) ∧ Hid (∃ l' : Bs, l'.length = L ∧ OwnBytes (wi.heap.size + 1) wr (.slice a2 L k2) l' ∧ Duo w K3 wr p q (N + 1) (M + 1) d' d' ∧ Keep K w4 wr)) (fun i _ => L - (intOf i).toNat)
  case atStart => exact ⟨0, Nat.zero_le _, rfl, l, HL.out, HO4.out, HD4.out, Keep.refl _ _⟩
  case round =>
    obtain ⟨k, hk, rfl, HI⟩ := hrel
    by_cases hlt : k < L
    · obtain ⟨l', hl', ho', hd', hk'⟩ := HI.out
      have hg : ∃ g, a2 = some ⟨g, 0, none⟩ := by
        rcases ho'.2 with ⟨h1, h0⟩ | ⟨g, cap', cur, hv', _⟩
        · omega
        · injection hv' with e1; exact ⟨g, e1⟩
      obtain ⟨g, rfl⟩ := hg
      obtain ⟨⟨z, e0⟩, f0, hs⟩ := ho'.spoil' hl' k hlt
      have HS := Lib.hid hs
      have HDD := Lib.hid (And.intro hd' hk')
      clear hl' ho' hd' hk' hs
      go_wp2
      go_roundw
      case rel =>
        obtain ⟨l'', h1, h2⟩ := HS.out _
        refine ⟨k + 1, by omega, by go_num, l'', h1, h2, ?_, ?_⟩
        · exact (HDD.out.1.write (C := fun j => j = g) ((Chg.refl (fun j => j = g) wr).setCell (p := ⟨g, k, none⟩) (.inl rfl) _) (fun j hj => by subst hj; have := HRD.out.row j rfl; exact ⟨this.1, this.2.1⟩) (fun _ => False) fun _ h => h.elim).narrow fun _ h => .inl h
        · refine HDD.out.2.trans (((Chg.refl (fun j => j = g) wr).setCell (p := ⟨g, k, none⟩) (.inl rfl) _).keep fun j hj hK => ?_)
          subst hj
          have h3 := (HRD.out.row j rfl).2.2
          have h4 := (HRD.out.sub j hK).2
          omega
      case measure => simp [intOf]; omega
    · obtain rfl : k = L := by omega
      obtain ⟨l', hl', ho', hd', hk'⟩ := HI.out
      have HDD := Lib.hid (And.intro hd' hk')
      clear hl' ho' hd' hk'
      go_wp2
      go_ret
      exact ⟨rfl, HDD.out.1.narrow fun j hj => (HRD.out.sub j hj).1, HK4.out.trans HDD.out.2⟩
set_option maxRecDepth 100000 in
set_option maxHeartbeats 8000000 in
theorem act_else {w : Fr} {wi : World} {K : Bks} {p q N M : Nat} {d : Dk} (h : Duo w K wi p q N M d d) (hN : N ≤ 400000) (hM : M ≤ 400000) (nm to l : Bs) (x y : Int) (ua : Option Addr) (L uc : Nat) (hu : BytesIn K wi (.slice ua L uc) l) (hL : l.length = L) (hl : L ≤ 100000) (hnm : nm.length ≤ maxLen) (hto : to.length ≤ maxLen) (o : Int) (hne : o ≠ 0 ∧ o ≠ 1 ∧ o ≠ 2 ∧ o ≠ 3 ∧ o ≠ 4 ∧ o ≠ 5 ∧ o ≠ 6 ∧ o ≠ 7 ∧ o ≠ 8) :
    Calls Try.prog 16 #[.pointer (some ⟨p, 0, none⟩), .pointer (some ⟨q, 0, none⟩), .agg #[.int .i64 o, .string ⟨nm.toArray⟩, .string ⟨to.toArray⟩, .slice ua L uc, .int .i64 x, .int .i64 y]] wi (ActDoes w K wi p q N M (d.act ⟨o, nm, to, l, x, y⟩)) := by
  have hused := And.intro hN (And.intro hM (And.intro hl (And.intro hnm hto)))
  clear hused
  have HREADY := Lib.hid (Ready.of h o nm to l ua L uc x y hu hL)
  have HMADE : Hid (OwnBytes (wi.heap.size + 1) ((wi.alloc (.cells #[.int .i64 o, .string ⟨nm.toArray⟩, .string ⟨to.toArray⟩, .slice ua L uc, .int .i64 x, .int .i64 y] 33)).alloc (.cells #[] 5)) (.slice (some ⟨wi.heap.size + 1, 0, none⟩) 0 0) []) := by
    have := OwnBytes.made (wi.alloc (.cells #[.int .i64 o, .string ⟨nm.toArray⟩, .string ⟨to.toArray⟩, .slice ua L uc, .int .i64 x, .int .i64 y] 33)) (wi.heap.size + 1) (by rw [World.size_alloc]; omega)
    rw [World.size_alloc] at this
    exact this
  have HU1 : Hid (∀ z z', BytesAt ((wi.alloc z).alloc z') (.slice ua L uc) l) := fun z z' => (hu.at.below (Go.Joins.below_alloc1 wi z) (Nat.le_refl _)).below (Go.Joins.below_alloc1 _ z') (Nat.le_refl _)
  have HS1 : Hid (∀ z z', wi.heap.size + 1 ≤ ((wi.alloc z).alloc z').heap.size) := fun z z' => by rw [World.size_alloc, World.size_alloc]; omega
  have e3 : ∀ z, ((wi.alloc (.cells #[.int .i64 o, .string ⟨nm.toArray⟩, .string ⟨to.toArray⟩, .slice ua L uc, .int .i64 x, .int .i64 y] 33)).alloc z).cell? ⟨wi.heap.size, 3, none⟩ = some (.slice ua L uc) := fun z => by
    have := XBox.cells (wi := wi) (o := o) (n := nm) (t := to) (u := .slice ua L uc) (x := x) (y := y) (K := fun _ => True) (keep_below (Go.Joins.below_alloc1 _ z)) trivial
    exact this.2.2.2.1
  have HL := Lib.hid hL
  obtain ⟨n0, n1, n2, n3, n4, n5, n6, n7, n8⟩ := hne
  have hact : d.act ⟨o, nm, to, l, x, y⟩ = d := by unfold Dk.act; simp [n0, n1, n2, n3, n4, n5, n6, n7, n8]
  rw [hact]
  obtain ⟨d', hd'⟩ : ∃ d', d = d' := ⟨_, rfl⟩
  rw [hd'] at HREADY ⊢
  have z0 : (o == 0) = false := by simp [n0]
  have z1 : (o == 1) = false := by simp [n1]
  have z2 : (o == 2) = false := by simp [n2]
  have z3 : (o == 3) = false := by simp [n3]
  have z4 : (o == 4) = false := by simp [n4]
  have z5 : (o == 5) = false := by simp [n5]
  have z6 : (o == 6) = false := by simp [n6]
  have z7 : (o == 7) = false := by simp [n7]
  have z8 : (o == 8) = false := by simp [n8]
  clear hact hd' hnm hto n0 n1 n2 n3 n4 n5 n6 n7 n8
  clear h hu hL
  go_enter Try.func16, Try.ntmps16
  go_wp2_with (at_builtin; refine wpList_append_place rfl _ _ rfl (wi.heap.size + 1) _ (.slice ua L uc) [] l rfl (by simp [Act.eval]) HMADE.out (HU1.out _ _) (by rw [HL.out]; show 0 + L ≤ 175921860444160; omega) (HS1.out _ _) ?_; intro v2 w2 ho2 hg2 _; obtain ⟨a2, k2, rfl, x0, x1, K3, W3, hW3, hrd⟩ := HREADY.out v2 w2 ho2 hg2; have HRD := Lib.hid hrd; obtain ⟨q0, q1, q2, q3, q4, q5⟩ := x0; have y0 := fun z => (x1 z).1; have y1 := fun z => (x1 z).2.1; have y2 := fun z => (x1 z).2.2.1; have y4 := fun z => (x1 z).2.2.2.2.1; have y5 := fun z => (x1 z).2.2.2.2.2; clear ho2 hg2 hrd x1)
  rw [← hW3]
  clear hW3 q0 q1 q2 q3 q4 q5 y0 y1 y2 y4 y5 e3
  obtain ⟨G, hG⟩ : ∃ G, w2.heap.size = G := ⟨_, rfl⟩
  rw [hG] at HRD ⊢
  clear hG
  have HD4 : Hid (Duo w K3 W3 p q (N + 1) (M + 1) d' d') := HRD.out.duo.mono (Nat.le_succ N) (Nat.le_succ M)
  have HO4 : Hid (OwnBytes (wi.heap.size + 1) W3 (.slice a2 L k2) l) := (HRD.out.own _ (Keep.refl _ _)).1
  have HK4 : Hid (Keep K wi W3) := HRD.out.keep
  go_loopw [15] (fun i wr => ∃ k : Nat, k ≤ L ∧ i = .int .i64 (k : Nat) ∧ Hid (∃ l' : Bs, l'.length = L ∧ OwnBytes (wi.heap.size + 1) wr (.slice a2 L k2) l' ∧ Duo w K3 wr p q (N + 1) (M + 1) d' d' ∧ Keep K W3 wr)) (fun i _ => L - (intOf i).toNat)
  case atStart => exact ⟨0, Nat.zero_le _, rfl, l, HL.out, HO4.out, HD4.out, Keep.refl _ _⟩
  case round =>
    obtain ⟨k, hk, rfl, HI⟩ := hrel
    by_cases hlt : k < L
    · obtain ⟨l', hl', ho', hd', hk'⟩ := HI.out
      have hg : ∃ g, a2 = some ⟨g, 0, none⟩ := by
        rcases ho'.2 with ⟨h1, h0⟩ | ⟨g, cap', cur, hv', _⟩
        · omega
        · injection hv' with e1; exact ⟨g, e1⟩
      obtain ⟨g, rfl⟩ := hg
      obtain ⟨⟨z, e0⟩, f0, hs⟩ := ho'.spoil' hl' k hlt
      have HS := Lib.hid hs
      have HDD := Lib.hid (And.intro hd' hk')
      clear hl' ho' hd' hk' hs
      go_wp2
      go_roundw
      case rel =>
        obtain ⟨l'', h1, h2⟩ := HS.out _
        refine ⟨k + 1, by omega, by go_num, l'', h1, h2, ?_, ?_⟩
        · exact (HDD.out.1.write (C := fun j => j = g) ((Chg.refl (fun j => j = g) wr).setCell (p := ⟨g, k, none⟩) (.inl rfl) _) (fun j hj => by subst hj; have := HRD.out.row j rfl; exact ⟨this.1, this.2.1⟩) (fun _ => False) fun _ h => h.elim).narrow fun _ h => .inl h
        · refine HDD.out.2.trans (((Chg.refl (fun j => j = g) wr).setCell (p := ⟨g, k, none⟩) (.inl rfl) _).keep fun j hj hK => ?_)
          subst hj
          have h3 := (HRD.out.row j rfl).2.2
          have h4 := (HRD.out.sub j hK).2
          omega
      case measure => simp [intOf]; omega
    · obtain rfl : k = L := by omega
      obtain ⟨l', hl', ho', hd', hk'⟩ := HI.out
      have HDD := Lib.hid (And.intro hd' hk')
      clear hl' ho' hd' hk'
      go_wp2
      go_ret
      exact ⟨rfl, HDD.out.1.narrow fun j hj => (HRD.out.sub j hj).1, HK4.out.trans HDD.out.2⟩
set_option maxRecDepth 100000 in
set_option maxHeartbeats 8000000 in
theorem act_read {w : Fr} {wi : World} {K : Bks} {p q N M : Nat} {d : Dk} (h : Duo w K wi p q N M d d) (hN : N ≤ 400000) (hM : M ≤ 400000) (nm to l : Bs) (x y : Int) (ua : Option Addr) (L uc : Nat) (hu : BytesIn K wi (.slice ua L uc) l) (hL : l.length = L) (hl : L ≤ 100000) (hnm : nm.length ≤ maxLen) (hto : to.length ≤ maxLen) :
    Calls Try.prog 16 #[.pointer (some ⟨p, 0, none⟩), .pointer (some ⟨q, 0, none⟩), .agg #[.int .i64 5, .string ⟨nm.toArray⟩, .string ⟨to.toArray⟩, .slice ua L uc, .int .i64 x, .int .i64 y]] wi (ActDoes w K wi p q N M (d.act ⟨5, nm, to, l, x, y⟩)) := by
  have hused := And.intro hN (And.intro hM (And.intro hl (And.intro hnm hto)))
  clear hused
  have HREADY := Lib.hid (Ready.of h 5 nm to l ua L uc x y hu hL)
  have HMADE : Hid (OwnBytes (wi.heap.size + 1) ((wi.alloc (.cells #[.int .i64 5, .string ⟨nm.toArray⟩, .string ⟨to.toArray⟩, .slice ua L uc, .int .i64 x, .int .i64 y] 33)).alloc (.cells #[] 5)) (.slice (some ⟨wi.heap.size + 1, 0, none⟩) 0 0) []) := by
    have := OwnBytes.made (wi.alloc (.cells #[.int .i64 5, .string ⟨nm.toArray⟩, .string ⟨to.toArray⟩, .slice ua L uc, .int .i64 x, .int .i64 y] 33)) (wi.heap.size + 1) (by rw [World.size_alloc]; omega)
    rw [World.size_alloc] at this
    exact this
  have HU1 : Hid (∀ z z', BytesAt ((wi.alloc z).alloc z') (.slice ua L uc) l) := fun z z' => (hu.at.below (Go.Joins.below_alloc1 wi z) (Nat.le_refl _)).below (Go.Joins.below_alloc1 _ z') (Nat.le_refl _)
  have HS1 : Hid (∀ z z', wi.heap.size + 1 ≤ ((wi.alloc z).alloc z').heap.size) := fun z z' => by rw [World.size_alloc, World.size_alloc]; omega
  have e3 : ∀ z, ((wi.alloc (.cells #[.int .i64 5, .string ⟨nm.toArray⟩, .string ⟨to.toArray⟩, .slice ua L uc, .int .i64 x, .int .i64 y] 33)).alloc z).cell? ⟨wi.heap.size, 3, none⟩ = some (.slice ua L uc) := fun z => by
    have := XBox.cells (wi := wi) (o := 5) (n := nm) (t := to) (u := .slice ua L uc) (x := x) (y := y) (K := fun _ => True) (keep_below (Go.Joins.below_alloc1 _ z)) trivial
    exact this.2.2.2.1
  have HL := Lib.hid hL
  obtain ⟨rb, hrb⟩ : ∃ rb, (if lack d nm [] = 0 then (d.seen.get nm).getD [] else []) = rb := ⟨_, rfl⟩
  obtain ⟨r, hr⟩ : ∃ r, lack d nm [] = r := ⟨_, rfl⟩
  obtain ⟨RL, hRL⟩ : ∃ RL, rb.length = RL := ⟨_, rfl⟩
  have HND : Hid (∀ (K3 : Bks) W, Duo w K3 W p q N M d d → Calls Try.prog 18 #[.pointer (some ⟨p, 0, none⟩), .string ⟨nm.toArray⟩] W fun en w' => ∃ a c, en = .returned (.tuple #[.slice a RL c, .int .i64 r]) ∧ OwnBytes W.heap.size w' (.slice a RL c) rb ∧ Duo w (fun k => K3 k ∨ (Value.slice a RL c).ownBlock = some k) w' p q N M d d ∧ Keep K3 W w') := fun K3 W hd => by
    have hd2 := hd
    obtain ⟨R, ⟨O, I, hda, _⟩, _⟩ := hd
    refine (read_any hda nm hnm).mono ?_
    rintro en w' ⟨v, rfl, ho, hb⟩
    rw [hrb] at ho
    obtain ⟨a, c, e⟩ := ho.form
    rw [hRL] at e
    subst e
    exact ⟨a, c, by rw [hr], ho, hd2.write (C := fun _ => False) (Chg.of_below hb (Nat.le_refl _)) (fun _ h => h.elim) (fun k => (Value.slice a RL c).ownBlock = some k) fun k hk => ho.lt k hk, keep_below hb⟩
  have HMD : Hid (∀ (K3 : Bks) W, Duo w K3 W p q N M d d → Calls Try.prog 49 #[.pointer (some ⟨q, 0, none⟩), .string ⟨nm.toArray⟩] W fun en w' => ∃ a c, en = .returned (.tuple #[.slice a RL c, .int .i64 r]) ∧ BytesAt w' (.slice a RL c) rb ∧ Duo w K3 w' p q N M d d ∧ Keep K3 W w') := fun K3 W hd => by
    have hd2 := hd
    obtain ⟨R, _, hra, _⟩ := hd
    refine (rread_any hra hM nm hnm).mono ?_
    rintro en w' ⟨a, c, rfl, hby, hb⟩
    rw [hrb, hRL] at *
    exact ⟨a, c, by rw [hr], hby, hd2.still hb, keep_below hb⟩
  have hact : d.act ⟨5, nm, to, l, x, y⟩ = d := rfl
  rw [hact]
  have kr : (r == r) = true := by simp
  obtain ⟨SB, hSB⟩ : ∃ SB : ByteArray, (⟨rb.toArray⟩ : ByteArray) = SB := ⟨_, rfl⟩
  have ks : (SB.toList == SB.toList) = true := by simp
  have HSB := Lib.hid hSB
  have HRL := Lib.hid hRL
  clear hact hnm hto hrb hr hRL hSB
  clear h hu hL
  go_enter Try.func16, Try.ntmps16
  go_wp2_with (at_builtin; refine wpList_append_place rfl _ _ rfl (wi.heap.size + 1) _ (.slice ua L uc) [] l rfl (by simp [Act.eval]) HMADE.out (HU1.out _ _) (by rw [HL.out]; show 0 + L ≤ 175921860444160; omega) (HS1.out _ _) ?_; intro v2 w2 ho2 hg2 _; obtain ⟨a2, k2, rfl, x0, x1, K3, W3, hW3, hrd⟩ := HREADY.out v2 w2 ho2 hg2; have HRD := Lib.hid hrd; obtain ⟨q0, q1, q2, q3, q4, q5⟩ := x0; have y0 := fun z => (x1 z).1; have y1 := fun z => (x1 z).2.1; have y2 := fun z => (x1 z).2.2.1; have y4 := fun z => (x1 z).2.2.2.2.1; have y5 := fun z => (x1 z).2.2.2.2.2; clear ho2 hg2 hrd x1)
  rw [← hW3]
  clear hW3 q0 q1 q2 q3 q4 q5 y0 y1 y2 y4 y5 e3
  obtain ⟨G, hG⟩ : ∃ G, w2.heap.size = G := ⟨_, rfl⟩
  rw [hG] at HRD ⊢
  clear hG
  refine (HND.out K3 W3 HRD.out.duo).mono ?_
  rintro e w5 ⟨pa, pc, rfl, ho5, hd5, hk5⟩
  generalize hK4 : (fun k => K3 k ∨ (Value.slice pa RL pc).ownBlock = some k) = K4 at hd5
  have HK34 : Hid (∀ k, K3 k → K4 k) := fun k hk => by rw [← hK4]; exact .inl hk
  have HPK : Hid (∀ k, (Value.slice pa RL pc).ownBlock = some k → K4 k ∧ W3.heap.size ≤ k) := fun k hk => ⟨by rw [← hK4]; exact .inr hk, (ho5.lt k hk).1⟩
  have HO5 := Lib.hid ho5
  have HD5 := Lib.hid (And.intro hd5 hk5)
  obtain ⟨z0, z1, z2, z3, z4, z5⟩ := HRD.out.xc w5 hk5
  clear ho5 hd5 hk5 hK4 z0 z2 z3 z4 z5
  go_wp2_with fail
  refine (HMD.out K4 w5 HD5.out.1).mono ?_
  rintro e w6 ⟨qa, qc, rfl, hb6, hd6, hk6⟩
  have ho6 : OwnBytes W3.heap.size w6 (.slice pa RL pc) rb := HO5.out.keep hk6 fun k hk => (HPK.out k hk).1
  have t1 := string_bytes ho6.at
  have t2 := string_bytes hb6
  rw [HSB.out] at t1 t2
  have HO6 := Lib.hid ho6
  have HD6 : Hid (Duo w K4 w6 p q (N + 1) (M + 1) d d) := hd6.mono (Nat.le_succ N) (Nat.le_succ M)
  have HK6 : Hid (Keep K wi w6) := HRD.out.keep.trans ((HD5.out.2.trans (hk6.mono HK34.out)).mono fun k hk => (HRD.out.sub k hk).1)
  have HWL : Hid (∀ k, W3.heap.size ≤ k → w.heap.size ≤ k ∧ wi.heap.size ≤ k) := fun k hk => by
    have h1 := HRD.out.duo.below.size
    have h2 := HRD.out.keep.1
    exact ⟨by omega, by omega⟩
  have hRLm : RL ≤ 9223372036854775807 := by rw [← HRL.out]; exact BytesIn.length_le HO6.out.at
  clear hb6 hd6 hk6 ho6 z1
  go_wp2
  go_loopw [14] (fun i wr => ∃ k : Nat, k ≤ RL ∧ i = .int .i64 (k : Nat) ∧ Hid (∃ l' : Bs, l'.length = RL ∧ OwnBytes W3.heap.size wr (.slice pa RL pc) l' ∧ Duo w K4 wr p q (N + 1) (M + 1) d d ∧ Keep K w6 wr)) (fun i _ => RL - (intOf i).toNat)
  case atStart => exact ⟨0, Nat.zero_le _, rfl, rb, HRL.out, HO6.out, HD6.out, Keep.refl _ _⟩
  case round =>
    obtain ⟨k, hk, rfl, HI⟩ := hrel
    by_cases hlt : k < RL
    · obtain ⟨l', hl', ho', hd', hk'⟩ := HI.out
      have hg : ∃ g, pa = some ⟨g, 0, none⟩ := by
        rcases ho'.2 with ⟨h1, h0⟩ | ⟨g, cap', cur, hv', _⟩
        · omega
        · injection hv' with e1; exact ⟨g, e1⟩
      obtain ⟨g, rfl⟩ := hg
      obtain ⟨⟨z, e0⟩, f0, hs⟩ := ho'.spoil' hl' k hlt
      have HS := Lib.hid hs
      have HDD := Lib.hid (And.intro hd' hk')
      clear hl' ho' hd' hk' hs
      go_wp2
      go_roundw
      case rel =>
        obtain ⟨l'', h1, h2⟩ := HS.out _
        refine ⟨k + 1, by omega, by go_num, l'', h1, h2, ?_, ?_⟩
        · exact (HDD.out.1.write (C := fun j => j = g) ((Chg.refl (fun j => j = g) wr).setCell (p := ⟨g, k, none⟩) (.inl rfl) _) (fun j hj => by subst hj; have := HPK.out j rfl; exact ⟨this.1, (HWL.out j this.2).1⟩) (fun _ => False) fun _ h => h.elim).narrow fun _ h => .inl h
        · refine HDD.out.2.trans (((Chg.refl (fun j => j = g) wr).setCell (p := ⟨g, k, none⟩) (.inl rfl) _).keep fun j hj hK => ?_)
          subst hj
          have h3 := (HWL.out j (HPK.out j rfl).2).2
          have h4 := (HRD.out.sub j hK).2
          omega
      case measure => simp [intOf]; omega
    · obtain rfl : k = RL := by omega
      obtain ⟨l', hl', ho', hd', hk'⟩ := HI.out
      have HDD := Lib.hid (And.intro hd' hk')
      clear hl' ho' hd' hk'
      go_wp2
      go_ret
      have hx : ActDoes w K wi p q N M d (.returned (.bool true)) wr := ⟨rfl, HDD.out.1.narrow fun j hj => HK34.out j (HRD.out.sub j hj).1, HK6.out.trans HDD.out.2⟩
      simpa [kr] using hx
end Go.Proofs.Yticbfnflillokaa
