/- The walk of the law CodeBehind. -/
import Derived.Test.YtniogemgkcoimaaLawEach
namespace Go.Proofs.Ytniogemgkcoimaa
open Go.RowKit
theorem row_single (q : PV) : rowBytes [q] = q.bytes := by simp [rowBytes]
theorem row_one_at (w : World) (q : PV) (u : Value) (cs : Array Value) (N : Nat) (hN : N = w.heap.size) (hcs : cs = (pcells (q, u)).toArray) (hb : BytesAt w u q.b) (ok : q.ok) (hs : q.b.length ≤ 100000) :
    Calls Try.prog 29 #[.slice (some ⟨N, 0, none⟩) 1 1] (w.alloc (.cells cs 32)) fun e w' => ∃ v, e = .returned v ∧ OwnBytes w.heap.size w' v q.bytes ∧ Below w.heap.size w w' := by
  subst hN
  refine (row_one w q u cs hcs hb ok hs).mono ?_
  rintro e w' ⟨v, rfl, ho, hb'⟩
  rw [row_single] at ho
  exact ⟨v, rfl, ho, hb'⟩
theorem mask16 (cut : Int) : ∃ K : Nat, K < 65536 ∧ bits .and .i64 cut 65535 = (K : Int) := by
  refine ⟨(BitVec.ofInt 64 cut &&& BitVec.ofInt 64 65535).toNat, ?_, ?_⟩
  · rw [BitVec.toNat_and]
    have : (BitVec.ofInt 64 65535).toNat = 65535 := by decide
    rw [this]
    exact Nat.lt_succ_of_le Nat.and_le_right
  · have h : (BitVec.ofInt 64 cut &&& BitVec.ofInt 64 65535).toNat < 65536 := by
      rw [BitVec.toNat_and]
      have : (BitVec.ofInt 64 65535).toNat = 65535 := by decide
      rw [this]
      exact Nat.lt_succ_of_le Nat.and_le_right
    show IntKind.i64.wrap (((BitVec.ofInt 64 cut &&& BitVec.ofInt 64 65535).toNat : Nat) : Int) = _
    generalize (BitVec.ofInt 64 cut &&& BitVec.ofInt 64 65535).toNat = x at *
    simp [IntKind.wrap, IntKind.bits, IntKind.signed]
    omega
/-- the box of the part, as it lies -/
abbrev pbox (w : World) (q : PV) (u : Value) : World := w.alloc (.cells #[.int .i64 q.sort, .int .i64 q.most, .int .u64 (q.x : Nat), u] 32)
theorem pbox_cells {w wi : World} {q : PV} {u : Value} (h : Below (pbox w q u).heap.size (pbox w q u) wi) : Cells4 wi w.heap.size q.sort q.most q.x u :=
  cells4_of (S' := []) (Chg.of_below h (Nat.le_refl _)) (by simp)
theorem box_nb {w : World} {k : Nat} {s m : Int} {x : Nat} {a : Option Addr} {n c : Nat} {t : TypeId} {fr : Nat × Nat} (h : w.heap[k]? = some (.cells #[.int .i64 s, .int .i64 m, .int .u64 (x : Nat), .slice a n c] t fr)) : NB w k := by
  intro j z hc
  rw [Go.Joins.cell_of_block h] at hc
  match j with
  | 0 => simp at hc
  | 1 => simp at hc
  | 2 => simp at hc
  | 3 => simp at hc
  | j + 4 => simp at hc
theorem cut_none (q : PV) (hq : q.ok) (hb : q.b.length < 18446744073709551616) (R : Nat) (hR : R < q.bytes.length) : readPart q.k q.b.length (q.bytes.take R) = none :=
  readPart_cut q hq.x hb _ (q.bytes.drop R) (List.take_append_drop _ _).symm (fun h => by have := congrArg List.length h; simp at this; omega)
/-- bytes appended to an empty literal, and more behind them: read by a new reader -/
def Joined (W wi : World) (v : Value) (l : List UInt8) : Prop := OwnBytes W.heap.size wi v l ∧ Below W.heap.size W wi
set_option maxRecDepth 100000 in
set_option maxHeartbeats 4000000 in
theorem behind_big (u v1 v2 : Value) (q : PV) (one two : List UInt8) (cut : Int) (w : World) (hu : BytesAt w u q.b) (h1 : BytesAt w v1 one) (h2 : BytesAt w v2 two) (hbig : 2000 < q.b.length ∨ 2000 < one.length ∨ 2000 < two.length) :
    Calls Try.prog 7 #[q.val u, v1, v2, .int .i64 cut] w fun e w' => e = .returned (.bool true) ∧ Below w.heap.size w w' := by
  obtain ⟨a, c, rfl, hl, _⟩ := hu.form
  obtain ⟨a1, c1, rfl, hl1, _⟩ := h1.form
  obtain ⟨a2, c2, rfl, hl2, _⟩ := h2.form
  rw [maxLen_eq] at hl hl1 hl2
  clear hu h1 h2
  obtain ⟨S, M, x, b⟩ := q
  dsimp only at *
  have HX : Hid (Calls Try.prog 11 #[] (w.alloc (.cells #[.int .i64 S, .int .i64 M, .int .u64 (x : Nat), .slice a b.length c] 32)) fun e w' => e = .returned (.bool true) ∧ Below w.heap.size w w') :=
    (awake_any _).mono fun e w' h => ⟨h.1, (Go.Joins.below_alloc1 w _).trans (h.2.mono (by simp))⟩
  generalize b.length = L at *
  generalize one.length = L1 at *
  generalize two.length = L2 at *
  by_cases c1' : 2000 < L
  · go_enter Try.func7, Try.ntmps7
    go_wp2_with (go_at_call 11; refine HX.out.mono ?_; rintro e w1 ⟨rfl, hb⟩; have HBE := Lib.hid hb; clear hb)
    go_ret
    exact ⟨rfl, HBE.out⟩
  by_cases c2' : 2000 < L1
  · go_enter Try.func7, Try.ntmps7
    go_wp2_with (go_at_call 11; refine HX.out.mono ?_; rintro e w1 ⟨rfl, hb⟩; have HBE := Lib.hid hb; clear hb)
    go_ret
    exact ⟨rfl, HBE.out⟩
  · have c3' : 2000 < L2 := by omega
    clear hbig
    go_enter Try.func7, Try.ntmps7
    go_wp2_with (go_at_call 11; refine HX.out.mono ?_; rintro e w1 ⟨rfl, hb⟩; have HBE := Lib.hid hb; clear hb)
    go_ret
    exact ⟨rfl, HBE.out⟩
set_option maxRecDepth 100000 in
set_option maxHeartbeats 4000000 in
theorem behind_small (u v1 v2 : Value) (q : PV) (one two : List UInt8) (cut : Int) (w : World) (hu : BytesAt w u q.b) (h1 : BytesAt w v1 one) (h2 : BytesAt w v2 two) (ok : q.ok) (hl : q.b.length ≤ 2000) (hl1 : one.length ≤ 2000) (hl2 : two.length ≤ 2000) :
    Calls Try.prog 7 #[q.val u, v1, v2, .int .i64 cut] w fun e w' => e = .returned (.bool true) ∧ Below w.heap.size w w' := by
  have HX : Hid (∀ wr, Below w.heap.size w wr → Calls Try.prog 11 #[] wr fun e w' => e = .returned (.bool true) ∧ Below w.heap.size w w') := fun wr hbw => (awake_any wr).mono fun e w' h => ⟨h.1, hbw.trans (h.2.mono hbw.size)⟩
  obtain ⟨a, c, rfl, _⟩ := hu.form
  obtain ⟨a1, c1, rfl, _⟩ := h1.form
  obtain ⟨a2, c2, rfl, _⟩ := h2.form
  have HU := Lib.hid hu
  have H1 := Lib.hid h1
  have H2 := Lib.hid h2
  have HOK := Lib.hid ok
  have hqb := bytes_length q
  obtain ⟨QB, hQB⟩ : ∃ QB, q.bytes = QB := ⟨_, rfl⟩
  have HQB := Lib.hid hQB
  rw [hQB] at hqb
  obtain ⟨L, hL⟩ : ∃ L, q.b.length = L := ⟨_, rfl⟩
  have HL := Lib.hid hL
  rw [hL] at hl HU hqb ⊢
  have hlt : w.heap.size + 1 = (pbox w q (.slice a L c)).heap.size := by simp
  have HW0 : Hid (Below w.heap.size w (pbox w q (.slice a L c))) := Go.Joins.below_alloc1 w _
  have HCELL : Hid (∀ wi, Below (pbox w q (.slice a L c)).heap.size (pbox w q (.slice a L c)) wi → Cells4 wi w.heap.size q.sort q.most q.x (.slice a L c)) := fun wi h => pbox_cells h
  have HBLK : Hid (∀ wi, Below (pbox w q (.slice a L c)).heap.size (pbox w q (.slice a L c)) wi → wi.heap[w.heap.size]? = some (.cells #[.int .i64 q.sort, .int .i64 q.most, .int .u64 (q.x : Nat), .slice a L c] 32 (0, 0))) := fun wi h =>
    (Chg.of_below (S := []) h (Nat.le_refl _)).heap (heap_alloc_new w _) (by simp)
  have HROW : Hid (∀ cs, cs = (pcells (q, .slice a L c)).toArray → Calls Try.prog 29 #[.slice (some ⟨w.heap.size + 1, 0, none⟩) 1 1] ((pbox w q (.slice a L c)).alloc (.cells cs 32)) fun e w' => ∃ v, e = .returned v ∧ OwnBytes (pbox w q (.slice a L c)).heap.size w' v QB ∧ Below (pbox w q (.slice a L c)).heap.size (pbox w q (.slice a L c)) w') := fun cs hcs => by
    rw [← hQB]
    exact row_one_at (pbox w q (.slice a L c)) q _ cs _ hlt hcs (by have h := HU.out.below HW0.out (Nat.le_refl _); exact h) HOK.out (by omega)
  clear hu h1 h2 ok hQB hL hlt
  obtain ⟨S, M, x, b⟩ := q
  dsimp only at *
  go_enter Try.func7, Try.ntmps7
  go_wp2_with fail
  refine (HROW.out _ rfl).mono ?_
  rintro e w3 ⟨v3, rfl, hown, hb⟩
  obtain ⟨W0, hqm⟩ : ∃ W0, pbox w ⟨S, M, x, b⟩ (.slice a L c) = W0 := ⟨_, rfl⟩
  rw [hqm] at hown hb HW0 HCELL HBLK
  have HB3 : Hid (Below W0.heap.size W0 w3) := hb
  have HV3 : Hid (BytesAt w3 v3 QB) := hown.bytesAt
  obtain ⟨a3, c3, hv3⟩ := hown.form
  subst hv3
  clear hown hb hqm HROW
  have HEx : Hid (OwnBytes w3.heap.size (w3.alloc (.cells #[] 5)) (.slice (some ⟨w3.heap.size, 0, none⟩) 0 0) [] ∧ Below w3.heap.size w3 (w3.alloc (.cells #[] 5))) := ⟨OwnBytes.made w3 _ (Nat.le_refl _), Go.Joins.below_alloc1 w3 _⟩
  go_wp2_with (first | (at_builtin; refine wpList_append_bytes rfl (.tmp 34) (.tmp 35) rfl w3.heap.size _ _ [] QB rfl rfl HEx.out.1 (HV3.out.below HEx.out.2 (Nat.le_refl _)) (by simp; omega) HEx.out.2.size ?_; intro va wa hown hgrow; have HAx : Hid (OwnBytes w3.heap.size wa va QB ∧ Below w3.heap.size w3 wa) := ⟨hown, HEx.out.2.grown hgrow HEx.out.2.size HEx.out.1.own⟩; clear hown hgrow) | (at_builtin; refine wpList_append_bytes rfl (.tmp 36) (.tmp 37) rfl w3.heap.size _ _ QB one rfl rfl HAx.out.1 ((H1.out.below HW0.out (Nat.le_refl _)).below (HB3.out.trans (HAx.out.2.mono HB3.out.size)) (Nat.le_refl _)) (by omega) HAx.out.2.size ?_; intro vb wb hown hgrow; have HDx : Hid (OwnBytes w3.heap.size wb vb (QB ++ one) ∧ Below w3.heap.size w3 wb) := ⟨hown, HAx.out.2.grown hgrow HAx.out.2.size HAx.out.1.own⟩; clear hown hgrow))
  refine (new_reader _ (QB ++ one) _ HDx.out.1.bytesAt (by simp; omega)).mono ?_
  rintro e w4 ⟨gx, rfl, hr, hb, hg, hgl⟩
  have hb4 : Below w3.heap.size w3 w4 := HDx.out.2.trans (hb.mono HDx.out.2.size)
  have HB4 : Hid (Below W0.heap.size W0 w4) := HB3.out.trans (hb4.mono HB3.out.size)
  have HV4 : Hid (BytesAt w4 (.slice a3 QB.length c3) QB) := HV3.out.below hb4 (Nat.le_refl _)
  have hgx : w3.heap.size ≤ gx := Nat.le_trans HDx.out.2.size hg
  have HRX : Hid (Rt W0 w4 gx ⟨QB ++ one, false⟩) := ⟨hr, HB4.out, Nat.le_trans HB3.out.size hgx⟩
  clear hr hb hg hb4 hgx HEx HV3
  have HEy : Hid (OwnBytes w4.heap.size (w4.alloc (.cells #[] 5)) (.slice (some ⟨w4.heap.size, 0, none⟩) 0 0) [] ∧ Below w4.heap.size w4 (w4.alloc (.cells #[] 5))) := ⟨OwnBytes.made w4 _ (Nat.le_refl _), Go.Joins.below_alloc1 w4 _⟩
  go_wp2_with (first | (at_builtin; refine wpList_append_bytes rfl (.tmp 40) (.tmp 41) rfl w4.heap.size _ _ [] QB rfl rfl HEy.out.1 (HV4.out.below HEy.out.2 (Nat.le_refl _)) (by simp; omega) HEy.out.2.size ?_; intro va wa hown hgrow; have HAy : Hid (OwnBytes w4.heap.size wa va QB ∧ Below w4.heap.size w4 wa) := ⟨hown, HEy.out.2.grown hgrow HEy.out.2.size HEy.out.1.own⟩; clear hown hgrow) | (at_builtin; refine wpList_append_bytes rfl (.tmp 42) (.tmp 43) rfl w4.heap.size _ _ QB two rfl rfl HAy.out.1 ((H2.out.below HW0.out (Nat.le_refl _)).below (HB4.out.trans (HAy.out.2.mono HB4.out.size)) (Nat.le_refl _)) (by omega) HAy.out.2.size ?_; intro vb wb hown hgrow; have HDy : Hid (OwnBytes w4.heap.size wb vb (QB ++ two) ∧ Below w4.heap.size w4 wb) := ⟨hown, HAy.out.2.grown hgrow HAy.out.2.size HAy.out.1.own⟩; clear hown hgrow))
  refine (new_reader _ (QB ++ two) _ HDy.out.1.bytesAt (by simp; omega)).mono ?_
  rintro e w5 ⟨gy, rfl, hr, hb, hg, hgl⟩
  have hb5 : Below w4.heap.size w4 w5 := HDy.out.2.trans (hb.mono HDy.out.2.size)
  have HB5 : Hid (Below W0.heap.size W0 w5) := HB4.out.trans (hb5.mono HB4.out.size)
  have HV5 : Hid (BytesAt w5 (.slice a3 QB.length c3) QB) := HV4.out.below hb5 (Nat.le_refl _)
  have hgy : w4.heap.size ≤ gy := Nat.le_trans HDy.out.2.size hg
  have HRX5 : Hid (Rt W0 w5 gx ⟨QB ++ one, false⟩) := HRX.out.below hb5 (Nat.le_refl _)
  have HRY5 : Hid (Rt W0 w5 gy ⟨QB ++ two, false⟩) := ⟨hr, HB5.out, Nat.le_trans HB4.out.size hgy⟩
  have hxy : gx ≠ gy := by omega
  have hgl5 := hgl
  clear hr hb hg hb5 hgy HEy HV4 HRX hgl
  have HM : Hid (∀ (wi : World) (g : Nat) (t : List UInt8), Below W0.heap.size W0 wi → Rd wi (some ⟨g, 0, none⟩) ⟨QB ++ t, false⟩ → t.length ≤ 2000 →
      Calls Try.prog 30 #[.pointer (some ⟨g, 0, none⟩), .agg #[.int .i64 S, .int .i64 M, .int .u64 (x : Nat), .slice a L c]] wi fun e w' => e = .returned (.bool true) ∧ Rd w' (some ⟨g, 0, none⟩) ⟨t, false⟩ ∧ Chg (at' (some ⟨g, 0, none⟩)) wi w') := fun wi g t hbw hrd ht => by
    have hb := HU.out.below (HW0.out.trans (hbw.mono HW0.out.size)) (Nat.le_refl _)
    have h := meet_any (some ⟨g, 0, none⟩) t ⟨S, M, x, b⟩ (.slice a L c) wi HOK.out hb (by rw [HQB.out]; simp; omega) (by rw [HL.out]; omega) (by rw [HQB.out]; exact hrd)
    exact h
  obtain ⟨k0, k1, k2, k3⟩ := HCELL.out w5 HB5.out
  go_wp2_with fail
  refine (HM.out w5 gx one HB5.out HRX5.out.1 hl1).mono ?_
  rintro e w6 ⟨rfl, hr, hc⟩
  have HRX6 : Hid (Rt W0 w6 gx ⟨one, false⟩) := HRX5.out.next hr hc
  have HRY6 : Hid (Rt W0 w6 gy ⟨QB ++ two, false⟩) := ⟨HRY5.out.1.other HRX5.out.1 hc (fun h => hxy h.symm), HRX6.out.2.1, HRY5.out.2.2⟩
  have HV6 : Hid (BytesAt w6 (.slice a3 QB.length c3) QB) := HV5.out.chg hc HRX5.out.1.nb
  clear hr hc HRX5 HRY5 HV5 HB5 HDx HDy HAx HAy k0 k1 k2 k3 hgl5
  obtain ⟨k0, k1, k2, k3⟩ := HCELL.out w6 HRX6.out.2.1
  go_wp2_with fail
  refine (HM.out w6 gy two HRX6.out.2.1 HRY6.out.1 hl2).mono ?_
  rintro e w7 ⟨rfl, hr, hc⟩
  have HRY7 : Hid (Rt W0 w7 gy ⟨two, false⟩) := HRY6.out.next hr hc
  have HRX7 : Hid (Rt W0 w7 gx ⟨one, false⟩) := ⟨HRX6.out.1.other HRY6.out.1 hc hxy, HRY7.out.2.1, HRX6.out.2.2⟩
  have HV7 : Hid (BytesAt w7 (.slice a3 QB.length c3) QB) := HV6.out.chg hc HRY6.out.1.nb
  have HB7 : Hid (Below W0.heap.size W0 w7) := HRY7.out.2.1
  clear hr hc HRX6 HRY6 HV6 HM k0 k1 k2 k3
  obtain ⟨k0, k1, k2, k3⟩ := HCELL.out w7 HB7.out
  have f1 := Go.Joins.unfrozen_of_block (HBLK.out w7 HB7.out) 1
  go_wp2_with fail
  refine (left_any _ _ _ HRX7.out.1).mono ?_
  rintro e w8 ⟨rfl, rfl⟩
  dsimp only
  go_wp2_with fail
  refine (left_any _ _ _ HRY7.out.1).mono ?_
  rintro e w8 ⟨rfl, rfl⟩
  dsimp only
  go_wp2_with fail
  refine (err_any _ _ _ HRX7.out.1).mono ?_
  rintro e w8 ⟨rfl, rfl⟩
  rw [show errOf (RS.mk one false).bad = 0 from rfl]
  obtain ⟨_, _, hvv, _, hc3, _⟩ := HV7.out.form
  cases hvv
  have HWB : Hid (∀ wi, Below W0.heap.size W0 wi → Below w.heap.size w wi) := fun wi h => HW0.out.trans (h.mono HW0.out.size)
  clear HRX7 HRY7 hxy
  by_cases h0 : QB.length = 0
  · go_wp2_with fail
    refine (HX.out _ (HWB.out _ HB7.out)).mono ?_
    rintro e w9 ⟨rfl, hb⟩
    have HBE := Lib.hid hb
    clear hb
    go_wp2
    go_ret
    exact ⟨rfl, HBE.out⟩
  · obtain ⟨K, hK, hand⟩ := mask16 cut
    obtain ⟨R, hR⟩ : ∃ R, K % QB.length = R := ⟨_, rfl⟩
    have hRl : R < QB.length := by rw [← hR]; exact Nat.mod_lt _ (by omega)
    have hmod : ((K : Int)).tmod (QB.length : Int) = (R : Int) := by rw [← hR]; rfl
    have hRc : R ≤ c3 := by omega
    have HFR : Hid (BytesAt w7 (.slice a3 R c3) (QB.take R)) := HV7.out.front (by omega)
    clear hR hK
    go_wp2_with fail
    refine (new_reader _ (QB.take R) _ HFR.out (by simp; omega)).mono ?_
    rintro e w9 ⟨gz, rfl, hr, hb, hg, _⟩
    have HB9 : Hid (Below W0.heap.size W0 w9) := HB7.out.trans (hb.mono HB7.out.size)
    have HRZ : Hid (Rd w9 (some ⟨gz, 0, none⟩) ⟨QB.take R, false⟩) := hr
    have hgz : W0.heap.size ≤ gz := Nat.le_trans HB7.out.size hg
    have HGZ := Lib.hid hgz
    have hNZ : w.heap.size ≠ gz := by
      have := lt_of_block (HBLK.out W0 (Below.refl _ _))
      omega
    have HNZ := Lib.hid hNZ
    clear hr hb hg hgz hNZ k0 k1 k2 k3 f1 hand hmod
    have hblk9 := HBLK.out w9 HB9.out
    obtain ⟨k0, k1, k2, k3⟩ := HCELL.out w9 HB9.out
    have f1 := Go.Joins.unfrozen_of_block hblk9 1
    have hset := Go.Joins.block_setCell (i := 1) hblk9 (.int .i64 (L : Nat))
    have hchg : Chg [w.heap.size] w9 (w9.setCell ⟨w.heap.size, 1, none⟩ (.int .i64 (L : Nat))) := (Chg.refl _ _).setCell (.inl (by simp)) _
    have HRZ2 : Hid (Rd (w9.setCell ⟨w.heap.size, 1, none⟩ (.int .i64 (L : Nat))) (some ⟨gz, 0, none⟩) ⟨QB.take R, false⟩) :=
      HRZ.out.chg hchg (by rw [at_some]; simp only [List.mem_singleton]; intro k hk hm; exact HNZ.out (hm.symm.trans hk)) (fun k hk => by rw [List.mem_singleton.1 hk]; exact box_nb hblk9)
    have HB10 : Hid (Below w.heap.size w (w9.setCell ⟨w.heap.size, 1, none⟩ (.int .i64 (L : Nat)))) := (HWB.out _ HB9.out).setCell (p := ⟨w.heap.size, 1, none⟩) (Nat.le_refl _) _
    have hget := get_any (some ⟨gz, 0, none⟩) ⟨QB.take R, false⟩ ⟨S, (L : Nat), x, b⟩ a L c (w9.setCell ⟨w.heap.size, 1, none⟩ (.int .i64 (L : Nat))) ⟨HOK.out.sort, by dsimp only; omega, HOK.out.x⟩ (by simp; omega) HRZ2.out
    have hcut := cut_none ⟨S, M, x, b⟩ HOK.out (by rw [HL.out]; omega) R (by rw [HQB.out]; exact hRl)
    rw [HQB.out, HL.out] at hcut
    have hcut2 : RS.get ⟨QB.take R, false⟩ (PV.k ⟨S, (L : Nat), x, b⟩) (L : Nat) = ((0, []), ⟨QB.take R, true⟩) := RS.get_none hcut
    unfold GetPost at hget
    dsimp only at hget
    rw [hcut2] at hget
    have HG := Lib.hid hget
    have htl : (QB.take R).length = R := by simp; omega
    have HTL := Lib.hid htl
    clear hblk9 hset hchg hget hcut hcut2 htl HB9 HRZ
    go_wp2_with fail
    refine HG.out.mono ?_
    rintro e w11 ⟨rfl, hr, hc⟩
    have HR11 := Lib.hid hr
    have HB11 : Hid (Below w.heap.size w w11) := HB10.out.trans (hc.below HB10.out.size (by rw [at_some]; simp only [List.mem_singleton]; intro k hk; rw [hk]; exact Nat.le_trans HW0.out.size HGZ.out))
    clear hr hc HG HRZ2 HB10 k0 k1 k2 k3 f1
    go_wp2_with (first | (go_at_call 24; refine (left_any _ _ _ HR11.out).mono ?_; rintro e w12 ⟨rfl, rfl⟩; dsimp only; rw [HTL.out]) | (go_at_call 25; refine (err_any _ _ _ HR11.out).mono ?_; rintro e w12 ⟨rfl, rfl⟩; rw [show errOf (RS.mk (QB.take R) true).bad = 2 from rfl]))
    refine (HX.out _ HB11.out).mono ?_
    rintro e w13 ⟨rfl, hb⟩
    have HBE := Lib.hid hb
    clear hb
    go_wp2
    go_ret
    exact ⟨rfl, HBE.out⟩
theorem codeBehind_any (u v1 v2 : Value) (q : PV) (one two : List UInt8) (cut : Int) (w : World) (hu : BytesAt w u q.b) (h1 : BytesAt w v1 one) (h2 : BytesAt w v2 two) (ok : q.ok) :
    Calls Try.prog 7 #[q.val u, v1, v2, .int .i64 cut] w fun e w' => e = .returned (.bool true) ∧ Below w.heap.size w w' := by
  by_cases hbig : 2000 < q.b.length ∨ 2000 < one.length ∨ 2000 < two.length
  · exact behind_big u v1 v2 q one two cut w hu h1 h2 hbig
  · exact behind_small u v1 v2 q one two cut w hu h1 h2 ok (by omega) (by omega) (by omega)
end Go.Proofs.Ytniogemgkcoimaa
