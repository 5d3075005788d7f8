/- The document's Add, Join, Take. -/
import Derived.Test.YtclchlcfcnlmhaaFj
import Derived.Deep.RegionHeldLaw
namespace Go.Proofs.Ytclchlcfcnlmhaa
open Go.RowKit Go.Maps Go.Shelf
set_option linter.unusedSimpArgs false
theorem go_one {R R' : List MK} {x : MK} (hR : MayR R) (hx : x.may) (h : intoR R [x] = some R') : MayR R' ∧ ∀ r, intoR R (x :: r) = intoR R' r := by
  rw [intoR_cons] at h
  by_cases hc : look R x.p = none ∧ 6 ≤ R.length
  · rw [if_pos hc] at h; cases h
  · rw [if_neg hc] at h
    injection h with h
    have hl : (ins R x).length ≤ 6 := by
      rw [len_ins hR.ris]
      have := hR.len
      split
      · rename_i hn
        have : ¬ 6 ≤ R.length := fun h6 => hc ⟨hn, h6⟩
        omega
      · exact this
    exact ⟨by rw [← h]; exact ⟨hl, may_ins hR.may hx, ris_ins hR.ris x⟩, fun r => by rw [intoR_cons, if_neg hc, h]⟩
theorem go_none {R : List MK} {x : MK} (h : intoR R [x] = none) (r : List MK) : intoR R (x :: r) = none := by
  rw [intoR_cons] at h ⊢
  by_cases hc : look R x.p = none ∧ 6 ≤ R.length
  · rw [if_pos hc]
  · rw [if_neg hc] at h; cases h
set_option maxHeartbeats 1000000 in
theorem radd_any (v : Value) (l : List MK) (m : MK) (w : World) (hp : MsAt w v l) (hm : m.ok) (hll : l.length ≤ 100000) :
    Calls Try.prog 23 #[v, m.val] w fun e w' => ∃ v' z, e = .returned (.tuple #[v', .int .i64 z]) ∧ AddPost w.heap.size w' v' z l m ∧ Below w.heap.size w w' := by
  obtain ⟨W, hW⟩ : ∃ W, W = w.alloc (.cells #[.int .i64 m.p, .int .u64 m.s, .int .u64 m.o] 26) := ⟨_, rfl⟩
  have hB : Below w.heap.size w W := by rw [hW]; exact Go.Joins.below_alloc1 w _
  have hx : BoxC W w.heap.size 26 m.cells.toArray := by rw [hW]; exact BoxC.new w 26 m.cells.toArray
  have HA := Lib.hid (rmayR_any v l W (hp.below hB) hll)
  have HP := Lib.hid (And.intro hp (And.intro hx hB))
  have HMO := Lib.hid hm
  clear hp hx hm hB hll
  go_enter Try.func23, Try.ntmps23
  go_upto_region 1 with fail
  rw [← hW]
  clear hW
  go_wp2_with fail
  refine HA.out.mono ?_
  rintro e w1 ⟨c1, rfl, h1, hb1⟩
  have HB1 := Lib.hid (HP.out.2.2.trans (hb1.mono HP.out.2.2.size))
  have HX1 := Lib.hid (HP.out.2.1.below hb1)
  cases c1
  · have HF := Lib.hid (show ¬ (MayR l ∧ m.may) from fun h => by have := h1.2 h.1; cases this)
    clear h1 hb1
    go_wp2
    refine bodyPost_ret (results_tmp2 rfl _ _ _) rfl ?_
    exact ⟨_, _, rfl, .inl ⟨HF.out, rfl, rfl⟩, HB1.out⟩
  · have H1 := Lib.hid (h1.1 rfl)
    have HM := Lib.hid (rmay_any m HMO.out w1)
    have x0 : w1.cell? ⟨w.heap.size, 0, none⟩ = some (.int .i64 m.p) := HX1.out.cell 0
    have x1 : w1.cell? ⟨w.heap.size, 1, none⟩ = some (.int .u64 m.s) := HX1.out.cell 1
    have x2 : w1.cell? ⟨w.heap.size, 2, none⟩ = some (.int .u64 m.o) := HX1.out.cell 2
    clear h1 hb1
    cases hmm : m.mayB
    · rw [hmm] at HM
      have HF := Lib.hid (show ¬ (MayR l ∧ m.may) from fun h => by have := (MK.mayB_iff HMO.out).2 h.2; rw [hmm] at this; cases this)
      clear hmm
      go_wp2_with fail
      refine HM.out.mono ?_
      rintro e w2 ⟨rfl, hb2⟩
      have HB2 := Lib.hid (HB1.out.trans (hb2.mono HB1.out.size))
      clear hb2
      go_wp2
      refine bodyPost_ret (results_tmp2 rfl _ _ _) rfl ?_
      exact ⟨_, _, rfl, .inl ⟨HF.out, rfl, rfl⟩, HB2.out⟩
    · rw [hmm] at HM
      have HT := Lib.hid ((MK.mayB_iff HMO.out).1 hmm)
      clear hmm
      go_wp2_with fail
      refine HM.out.mono ?_
      rintro e w2 ⟨rfl, hb2⟩
      have HB2 := Lib.hid (HB1.out.trans (hb2.mono HB1.out.size))
      have HX2 := HX1.out.below hb2
      clear x0 x1 x2
      have x0 : w2.cell? ⟨w.heap.size, 0, none⟩ = some (.int .i64 m.p) := HX2.cell 0
      have x1 : w2.cell? ⟨w.heap.size, 1, none⟩ = some (.int .u64 m.s) := HX2.cell 1
      have x2 : w2.cell? ⟨w.heap.size, 2, none⟩ = some (.int .u64 m.o) := HX2.cell 2
      have HI := Lib.hid (rgo_any v l m w2 (HP.out.1.below HB2.out) HMO.out H1.out.ris H1.out.len)
      have HB3 := HB2
      clear hb2 HX2
      go_wp2_with fail
      refine HI.out.mono ?_
      rintro e w3 ⟨v3, z3, rfl, h3, hb3⟩
      have H3 := Lib.hid (And.intro h3.base (HB3.out.trans (hb3.mono HB3.out.size)))
      clear h3 hb3 x0 x1 x2
      go_wp2
      refine bodyPost_ret (results_tmp2 rfl _ _ _) rfl ?_
      exact ⟨_, _, rfl, .inr ⟨⟨H1.out, HT.out⟩, H3.out.1 _ HB3.out.size⟩, H3.out.2⟩
set_option maxHeartbeats 2000000 in
theorem rjoin_any (v u : Value) (a b : List MK) (w : World) (hp : MsAt w v a) (hq : MsAt w u b) (hla : a.length ≤ 100000) (hlb : b.length ≤ 100000) :
    Calls Try.prog 27 #[v, u] w fun e w' => ∃ v' z, e = .returned (.tuple #[v', .int .i64 z]) ∧ JoinPost w.heap.size w' v' z a b ∧ Below w.heap.size w w' := by
  have HA := Lib.hid (rmayR_any v a w hp hla)
  have HP := Lib.hid (And.intro hp hq)
  have HONE := Lib.hid (ms_oneCell a)
  have HLB := Lib.hid hlb
  obtain ⟨a0, ca, rfl, -⟩ := hp.form
  obtain ⟨b0, cb, rfl, hblen, -⟩ := hq.form
  obtain ⟨M, hM⟩ : ∃ M, b.length = M := ⟨_, rfl⟩
  rw [hM] at HP hblen ⊢
  have HM := Lib.hid hM
  clear hp hq hM hla hlb
  go_enter Try.func27, Try.ntmps27
  go_wp2_with fail
  refine HA.out.mono ?_
  rintro e w1 ⟨c1, rfl, h1, hb1⟩
  have HB1 := Lib.hid hb1
  cases c1
  · have HF := Lib.hid (show ¬ (MayR a ∧ MayR b) from fun h => by have := h1.2 h.1; cases this)
    clear h1 hb1
    go_wp2
    refine bodyPost_ret (results_tmp2 rfl _ _ _) rfl ?_
    exact ⟨_, _, rfl, .inl ⟨HF.out, rfl, rfl⟩, HB1.out⟩
  · have H1 := Lib.hid (h1.1 rfl)
    have HB := Lib.hid (rmayR_any _ b w1 (HP.out.2.below hb1) HLB.out)
    clear h1 hb1
    go_wp2_with fail
    refine HB.out.mono ?_
    rintro e w2 ⟨c2, rfl, h2, hb2⟩
    have HB2 := Lib.hid (HB1.out.trans (hb2.mono HB1.out.size))
    cases c2
    · have HF := Lib.hid (show ¬ (MayR a ∧ MayR b) from fun h => by have := h2.2 h.2; cases this)
      clear h2 hb2
      go_wp2
      refine bodyPost_ret (results_tmp2 rfl _ _ _) rfl ?_
      exact ⟨_, _, rfl, .inl ⟨HF.out, rfl, rfl⟩, HB2.out⟩
    · have H2 := Lib.hid (h2.1 rfl)
      have HM0 := Lib.hid (show OwnMs w2.heap.size (w2.alloc (.cells #[] 26)) (.slice (some ⟨w2.heap.size, 0, none⟩) 0 0) [] from OwnRow.made w2)
      have HA1 := Lib.hid (show MsAt (w2.alloc (.cells #[] 26)) (.slice a0 a.length ca) a ∧ Below w2.heap.size w2 (w2.alloc (.cells #[] 26)) from ⟨(HP.out.1.below HB2.out).below (Go.Joins.below_alloc1 w2 _), Go.Joins.below_alloc1 w2 _⟩)
      have HSM := Lib.hid (show ([] : List MK).length + a.length ≤ 1000000 by have := H1.out.len; simp; omega)
      clear h2 hb2
      go_wp2_with (first
        | (at_builtin; refine wpList_append_rows rfl _ _ 22 26 3 24 _ MK.cells rfl Try.underlying22 info26 rfl (by decide) (by decide) (fun _ => rfl) w2.heap.size _ _ [] a rfl rfl HM0.out HA1.out.1 HONE.out HSM.out HA1.out.2.size ?_; intro v3 w3 ho3 hg3; have HO3 := Lib.hid (show OwnMs w2.heap.size w3 v3 a from ho3); have HB3 := Lib.hid (HA1.out.2.grown hg3 HA1.out.2.size (fun j hj => (OwnRow.lt HM0.out j hj).1)); clear ho3 hg3)
        | fail)
      have H3 := Lib.hid (show OwnMs w.heap.size w3 v3 a ∧ Below w.heap.size w w3 from ⟨HO3.out.base_le HB2.out.size, HB2.out.trans (HB3.out.mono HB2.out.size)⟩)
      go_loopw [6, 7] (fun ov iv wr => ∃ (k : Nat) (R : List MK), k ≤ M ∧ iv = .int .i64 (k : Nat) ∧ Hid ((intoR a b = intoR R (b.drop k) ∧ MayR R) ∧ OwnMs w.heap.size wr ov R ∧ Below w.heap.size w wr)) (fun _ iv _ => M - (intOf iv).toNat)
      case atStart => exact ⟨0, a, Nat.zero_le _, rfl, ⟨rfl, H1.out⟩, H3.out⟩
      case round =>
        obtain ⟨k, R, hk, rfl, HR⟩ := hrel
        by_cases hlt : k < M
        · obtain ⟨x, hx⟩ : ∃ x, b[k]? = some x := ⟨_, List.getElem?_eq_getElem (by rw [HM.out]; exact hlt)⟩
          have hltz : (k : Int) < (M : Int) := by omega
          have HXM := Lib.hid (H2.out.may x (List.mem_of_getElem? hx))
          obtain ⟨bb, off, rfl, -, hc⟩ := MsAt.cell (HP.out.2.below HR.out.2.2) hx
          obtain ⟨c0, c1, c2⟩ := hc wr (Below.refl _ _)
          have HD := Lib.hid (drop_cons hx)
          have HG := Lib.hid (rgo_any u6 R x wr (HR.out.2.1.at (ms_ok HR.out.1.2)) HXM.out.ok HR.out.1.2.ris HR.out.1.2.len)
          clear hx hc
          go_wp2_with fail
          refine HG.out.mono ?_
          rintro e w4 ⟨v4, z4, rfl, h4, hb4⟩
          have HB4 := Lib.hid (HR.out.2.2.trans (hb4.mono HR.out.2.2.size))
          rcases h4 with ⟨R', hR', rfl, o4⟩ | ⟨hR', rfl, -⟩
          · have hc := go_one HR.out.1.2 HXM.out hR'
            have HN := Lib.hid (show intoR a b = intoR R' (b.drop (k + 1)) ∧ MayR R' from ⟨by rw [HR.out.1.1, HD.out]; exact hc.2 _, hc.1⟩)
            have HO4 := Lib.hid (o4.base_le HR.out.2.2.size)
            clear hR' o4 hb4 hc c0 c1 c2
            go_wp2
            go_roundw
            case rel => exact ⟨k + 1, R', by omega, by go_num, HN.out, HO4.out, HB4.out⟩
            case measure => simp [intOf]; omega
          · have HN := Lib.hid (show intoR a b = none from by rw [HR.out.1.1, HD.out]; exact go_none hR' _)
            clear hR' hb4 c0 c1 c2
            go_wp2
            refine bodyPost_ret (results_tmp2 rfl _ _ _) rfl ?_
            exact ⟨_, _, rfl, .inr ⟨⟨H1.out, H2.out⟩, .inr ⟨HN.out, rfl, rfl⟩⟩, HB4.out⟩
        · obtain rfl : k = M := by omega
          have HD := Lib.hid (show intoR a b = some R from by have := HR.out.1.1; rw [List.drop_of_length_le (by rw [HM.out]; exact Nat.le_refl _)] at this; exact this)
          have HZ := Lib.hid HR.out.2
          clear HR
          go_wp2
          refine bodyPost_ret (results_tmp2 rfl _ _ _) rfl ?_
          exact ⟨_, _, rfl, .inr ⟨⟨H1.out, H2.out⟩, .inl ⟨R, HD.out, rfl, HZ.out.1⟩⟩, HZ.out.2⟩
theorem stands_iff {f : Int} {l : List EN} {n : Nat} (hn : l.length = n) (h : (∀ e ∈ l, e.may) ∧ (0 < n → f + (n : Int) - 1 ≤ 4611686018427387903)) : Stands f l := by
  rcases Nat.eq_zero_or_pos n with h0 | h0
  · exact .inl (List.eq_nil_of_length_eq_zero (by omega))
  · exact .inr ⟨by have := h.2 h0; omega, h.1⟩
theorem stand_drop {f : Int} {l : List EN} {k : Nat} {e : EN} (he : l[k]? = some e) : (stand f l).drop k = ⟨e.p, e.s, f + (k : Int)⟩ :: (stand f l).drop (k + 1) := drop_cons (stand_get f l k e he)
set_option maxRecDepth 100000 in
set_option maxHeartbeats 4000000 in
theorem rtake_any (v u : Value) (l : List MK) (f : Int) (es : List EN) (w : World) (hf : 0 ≤ f ∧ f ≤ 18446744073709551615) (hp : MsAt w v l) (hq : EsAt w u es) (hes : es.length ≤ 100000) (hll : l.length ≤ 100000) :
    Calls Try.prog 25 #[v, .int .u64 f, u] w fun e w' => ∃ v' z, e = .returned (.tuple #[v', .int .i64 z]) ∧ TakePost w.heap.size w' v' z l f es ∧ Below w.heap.size w w' := by
  have HA := Lib.hid (rmayR_any v l w hp hll)
  have HP := Lib.hid (And.intro hp hq)
  have HF0 := Lib.hid hf
  have HONE := Lib.hid (ms_oneCell l)
  obtain ⟨l0, cl, rfl, -⟩ := hp.form
  obtain ⟨ua, ucap, rfl, hlen, -⟩ := hq
  obtain ⟨n, hn⟩ : ∃ n, es.length = n := ⟨_, rfl⟩
  rw [hn] at hlen hes HP ⊢
  have HN := Lib.hid hn
  clear hn hp hf hll
  go_enter Try.func25, Try.ntmps25
  go_wp2_with fail
  refine HA.out.mono ?_
  rintro e w1 ⟨c1, rfl, h1, hb1⟩
  have HB1 := Lib.hid hb1
  cases c1
  · have HF := Lib.hid (show ¬ (MayR l ∧ Stands f es) from fun h => by have := h1.2 h.1; cases this)
    clear h1 hb1
    go_wp2
    refine bodyPost_ret (results_tmp2 rfl _ _ _) rfl ?_
    exact ⟨_, _, rfl, .inl ⟨HF.out, rfl, rfl⟩, HB1.out⟩
  have H1 := Lib.hid (h1.1 rfl)
  clear h1 hb1
  go_wp2
  go_loopw [8] (fun iv wr => ∃ k : Nat, k ≤ n ∧ iv = .int .i64 (k : Nat) ∧ Hid (((∀ e ∈ es.take k, e.may) ∧ (0 < k → f + (k : Int) - 1 ≤ 4611686018427387903)) ∧ Below w.heap.size w wr)) (fun iv _ => n - (intOf iv).toNat)
  case atStart => exact ⟨0, Nat.zero_le _, rfl, ⟨by simp, fun h => absurd h (by omega)⟩, HB1.out⟩
  case round =>
    obtain ⟨k, hk, rfl, HR⟩ := hrel
    by_cases hlt : k < n
    · obtain ⟨x, hx⟩ : ∃ x, es[k]? = some x := ⟨_, List.getElem?_eq_getElem (by rw [HN.out]; exact hlt)⟩
      have hltz : (k : Int) < (n : Int) := by omega
      obtain ⟨b, off, rfl, -, hc⟩ := EsAt.cell (HP.out.2.below HR.out.2) hx
      obtain ⟨c0, c1, c2⟩ := hc wr (Below.refl _ _)
      have HMY := Lib.hid (remay_any x wr)
      have HX := Lib.hid hx
      clear hc hx
      by_cases hm : x.may
      · rw [decide_eq_true hm] at HMY
        have HXM := Lib.hid hm
        clear hm
        by_cases hf1 : 4611686018427387903 < f
        · have HF := Lib.hid (show ¬ (MayR l ∧ Stands f es) from fun h => by
            rcases h.2 with h | ⟨h, -⟩
            · have := HX.out; rw [h] at this; simp at this
            · have := HN.out; omega)
          go_wp2_with fail
          refine HMY.out.mono ?_
          rintro e w2 ⟨rfl, hb2⟩
          have HB2 := Lib.hid (HR.out.2.trans (hb2.mono HR.out.2.size))
          clear hb2 c0 c1 c2
          go_wp2
          refine bodyPost_ret (results_tmp2 rfl _ _ _) rfl ?_
          exact ⟨_, _, rfl, .inl ⟨HF.out, rfl, rfl⟩, HB2.out⟩
        · have hwk : IntKind.u64.wrap (k : Int) = (k : Int) := wrap_u64 (by omega) (by omega)
          have hws : IntKind.u64.wrap (4611686018427387903 - f) = 4611686018427387903 - f := wrap_u64 (by omega) (by have := HF0.out; omega)
          by_cases hf2 : 4611686018427387903 - f < (k : Int)
          · have HF := Lib.hid (show ¬ (MayR l ∧ Stands f es) from fun h => by
              rcases h.2 with h | ⟨h, -⟩
              · have := HX.out; rw [h] at this; simp at this
              · have := HN.out; omega)
            go_wp2_with fail
            refine HMY.out.mono ?_
            rintro e w2 ⟨rfl, hb2⟩
            have HB2 := Lib.hid (HR.out.2.trans (hb2.mono HR.out.2.size))
            clear hb2 c0 c1 c2
            go_wp2
            refine bodyPost_ret (results_tmp2 rfl _ _ _) rfl ?_
            exact ⟨_, _, rfl, .inl ⟨HF.out, rfl, rfl⟩, HB2.out⟩
          · have HK := Lib.hid (show (∀ e ∈ es.take (k + 1), e.may) ∧ (0 < k + 1 → f + ((k + 1 : Nat) : Int) - 1 ≤ 4611686018427387903) from ⟨fun e he => by
              rw [take_snoc HX.out] at he
              rcases List.mem_append.1 he with he | he
              · exact HR.out.1.1 e he
              · rw [List.mem_singleton.1 he]; exact HXM.out, fun _ => by omega⟩)
            go_wp2_with fail
            refine HMY.out.mono ?_
            rintro e w2 ⟨rfl, hb2⟩
            have HB2 := Lib.hid (HR.out.2.trans (hb2.mono HR.out.2.size))
            clear hb2 c0 c1 c2
            go_wp2
            go_roundw
            case rel => exact ⟨k + 1, by omega, by go_num, HK.out, HB2.out⟩
            case measure => simp [intOf]; omega
      · rw [decide_eq_false hm] at HMY
        have HF := Lib.hid (show ¬ (MayR l ∧ Stands f es) from fun h => by
          rcases h.2 with h | ⟨-, h⟩
          · have := HX.out; rw [h] at this; simp at this
          · exact hm (h x (List.mem_of_getElem? HX.out)))
        clear hm
        go_wp2_with fail
        refine HMY.out.mono ?_
        rintro e w2 ⟨rfl, hb2⟩
        have HB2 := Lib.hid (HR.out.2.trans (hb2.mono HR.out.2.size))
        clear hb2 c0 c1 c2
        go_wp2
        refine bodyPost_ret (results_tmp2 rfl _ _ _) rfl ?_
        exact ⟨_, _, rfl, .inl ⟨HF.out, rfl, rfl⟩, HB2.out⟩
    · obtain rfl : k = n := by omega
      have HS := Lib.hid (show Stands f es from stands_iff HN.out (by have := HR.out.1; rwa [take_all HN.out] at this))
      have HB2 := Lib.hid HR.out.2
      have HFK := Lib.hid (HR.out.1.2)
      clear HR
      have HM0 := Lib.hid (show OwnMs wr.heap.size (wr.alloc (.cells #[] 26)) (.slice (some ⟨wr.heap.size, 0, none⟩) 0 0) [] from OwnRow.made wr)
      have HA1 := Lib.hid (show MsAt (wr.alloc (.cells #[] 26)) (.slice l0 l.length cl) l ∧ Below wr.heap.size wr (wr.alloc (.cells #[] 26)) from ⟨(HP.out.1.below HB2.out).below (Go.Joins.below_alloc1 wr _), Go.Joins.below_alloc1 wr _⟩)
      have HSM := Lib.hid (show ([] : List MK).length + l.length ≤ 1000000 by have := H1.out.len; simp; omega)
      obtain ⟨wp, rfl⟩ : ∃ wp : World, wp = wr := ⟨_, rfl⟩
      go_wp2_with (first
        | (at_builtin; refine wpList_append_rows rfl _ _ 22 26 3 24 _ MK.cells rfl Try.underlying22 info26 rfl (by decide) (by decide) (fun _ => rfl) wp.heap.size _ _ [] l rfl rfl HM0.out HA1.out.1 HONE.out HSM.out HA1.out.2.size ?_; intro v3 w3 ho3 hg3; have HO3 := Lib.hid (show OwnMs wp.heap.size w3 v3 l from ho3); have HB3 := Lib.hid (HA1.out.2.grown hg3 HA1.out.2.size (fun j hj => (OwnRow.lt HM0.out j hj).1)); clear ho3 hg3)
        | fail)
      have H3 := Lib.hid (show OwnMs w.heap.size w3 v3 l ∧ Below w.heap.size w w3 from ⟨HO3.out.base_le HB2.out.size, HB2.out.trans (HB3.out.mono HB2.out.size)⟩)
      go_loopw [9, 10] (fun ov iv wr => ∃ (j : Nat) (R : List MK), j ≤ k ∧ iv = .int .i64 (j : Nat) ∧ Hid ((intoR l (stand f es) = intoR R ((stand f es).drop j) ∧ MayR R) ∧ OwnMs w.heap.size wr ov R ∧ Below w.heap.size w wr)) (fun _ iv _ => k - (intOf iv).toNat)
      case atStart => exact ⟨0, l, Nat.zero_le _, rfl, ⟨rfl, H1.out⟩, H3.out⟩
      case round =>
        obtain ⟨j, R, hj, rfl, HR⟩ := hrel
        by_cases hjk : j < k
        · obtain ⟨x, hx⟩ : ∃ x, es[j]? = some x := ⟨_, List.getElem?_eq_getElem (by rw [HN.out]; exact hjk)⟩
          have hjz : (j : Int) < (k : Int) := by omega
          have hfj : f + (j : Int) ≤ 4611686018427387903 := by have := HFK.out (by omega); omega
          have hwk : IntKind.u64.wrap (j : Int) = (j : Int) := wrap_u64 (by omega) (by omega)
          have hwf : IntKind.u64.wrap (f + (j : Int)) = f + (j : Int) := wrap_u64 (by have := HF0.out; omega) (by omega)
          have HXM := Lib.hid (show MK.may ⟨x.p, x.s, f + (j : Int)⟩ from HS.out.may HF0.out.1 _ (List.mem_of_getElem? (stand_get f es j x hx)))
          obtain ⟨bb, off, rfl, -, hc⟩ := EsAt.cell (HP.out.2.below HR.out.2.2) hx
          obtain ⟨c0, c1, c2⟩ := hc wr (Below.refl _ _)
          have HD := Lib.hid (stand_drop (f := f) hx)
          have HXG := Lib.hid hx
          have HG := Lib.hid (show Calls Try.prog 42 #[u9, .agg #[.int .i64 x.p, .int .u64 x.s, .int .u64 (f + (j : Int))]] wr.drew fun e w' => ∃ v' z, e = .returned (.tuple #[v', .int .i64 z]) ∧ IntoPost wr.heap.size w' v' z (intoR R [⟨x.p, x.s, f + (j : Int)⟩]) ∧ Below wr.heap.size wr.drew w' from rgo_any u9 R ⟨x.p, x.s, f + (j : Int)⟩ wr.drew ((HR.out.2.1.at (ms_ok HR.out.1.2)).below (Below.drew (Below.refl _ wr))) HXM.out.ok HR.out.1.2.ris HR.out.1.2.len)
          clear hx hc
          have HSC := Lib.hid (show ∀ W, Below wr.heap.size wr W → W.cell? ⟨bb, off + j * 3, none⟩ = some (.int .i64 x.p) ∧ W.cell? ⟨bb, off + j * 3 + 1, none⟩ = some (.int .u64 x.s) from fun W hW => by
            obtain ⟨b', o', he, -, hc⟩ := EsAt.cell (HP.out.2.below (HR.out.2.2.trans (hW.mono HR.out.2.2.size))) HXG.out
            cases he
            have := hc W (Below.refl _ _)
            exact ⟨this.1, this.2.1⟩)
          have HQ := Lib.hid (show Below wr.heap.size wr wr.drew from Below.drew (Below.refl _ wr))
          go_wp2_with fail
          go_region_held (fun W => W.cell? ⟨bb, off + j * 3, none⟩ = some (.int .i64 x.p) ∧ W.cell? ⟨bb, off + j * 3 + 1, none⟩ = some (.int .u64 x.s)) ((exact HSC.out _ HQ.out)) (first | (go_at_call 42; refine HG.out.mono ?_; rintro e w4 ⟨v4, z4, rfl, h4, hb4⟩; have H4 := Lib.hid h4; have HQ := Lib.hid (show Below wr.heap.size wr w4 from Below.trans HQ.out hb4); clear h4 hb4))
          have HB4 := Lib.hid (HR.out.2.2.trans (HQ.out.mono HR.out.2.2.size))
          rcases H4.out with ⟨R', hR', rfl, o4⟩ | ⟨hR', rfl, -⟩
          · have hc := go_one HR.out.1.2 HXM.out hR'
            have HNX := Lib.hid (show intoR l (stand f es) = intoR R' ((stand f es).drop (j + 1)) ∧ MayR R' from ⟨by rw [HR.out.1.1, HD.out]; exact hc.2 _, hc.1⟩)
            have HO4 := Lib.hid (OwnMs.base_le (base' := w.heap.size) o4 HR.out.2.2.size)
            clear hR' o4 hc c0 c1 c2
            go_wp2
            go_roundw
            case rel => exact ⟨j + 1, R', by omega, by go_num, HNX.out, HO4.out, HB4.out⟩
            case measure => simp [intOf]; omega
          · have HNX := Lib.hid (show intoR l (stand f es) = none from by rw [HR.out.1.1, HD.out]; exact go_none hR' _)
            clear hR' c0 c1 c2
            go_wp2
            refine bodyPost_ret (results_tmp2 rfl _ _ _) rfl ?_
            exact ⟨_, _, rfl, .inr ⟨⟨H1.out, HS.out⟩, .inr ⟨HNX.out, rfl, rfl⟩⟩, HB4.out⟩
        · obtain rfl : j = k := by omega
          have HD := Lib.hid (show intoR l (stand f es) = some R from by have := HR.out.1.1; rw [List.drop_of_length_le (by rw [stand_len, HN.out]; exact Nat.le_refl _)] at this; exact this)
          have HZ := Lib.hid HR.out.2
          clear HR
          go_wp2
          refine bodyPost_ret (results_tmp2 rfl _ _ _) rfl ?_
          exact ⟨_, _, rfl, .inr ⟨⟨H1.out, HS.out⟩, .inl ⟨R, HD.out, rfl, HZ.out.1⟩⟩, HZ.out.2⟩
end Go.Proofs.Ytclchlcfcnlmhaa
