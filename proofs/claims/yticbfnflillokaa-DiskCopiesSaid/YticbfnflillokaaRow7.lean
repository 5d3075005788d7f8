/- The document's disk: Seen. -/
import Derived.Test.YticbfnflillokaaRow6
namespace Go.Proofs.Yticbfnflillokaa
open Go.RowKit
/-- the document's disk d at block q; the blocks R it reads -/
structure RefP (w : World) (R : Bks) (q : Nat) (d : Dk) (la wa : Option Addr) (lc wc : Nat) (vs : List FV) (cs : List CV) : Prop where
  block : w.heap[q]? = some (.cells #[.slice la vs.length lc, .slice wa cs.length wc, .int .i64 (d.cap : Nat), .int .u64 (d.serial : Nat), .bool d.down] 68 (0, 0))
  last : FilesIn R w (.slice la vs.length lc) vs
  lastIs : fsOf vs = d.synced
  waits : ChsIn R w (.slice wa cs.length wc) cs
  waitsAre : cs.map CV.ch = d.waits
  qR : ¬ R q
  lt : ∀ k, R k → k < w.heap.size
def RefAt (w : World) (R : Bks) (q N : Nat) (d : Dk) : Prop := d.ok ∧ d.synced.length + d.waits.length ≤ N ∧ d.serial ≤ N + 1 ∧ ∃ la wa lc wc vs cs, RefP w R q d la wa lc wc vs cs
theorem RefP.keep {w W : World} {R I : Bks} {q : Nat} {d : Dk} {la wa : Option Addr} {lc wc : Nat} {vs : List FV} {cs : List CV} (h : RefP w R q d la wa lc wc vs cs) (hk : Keep I w W) (hI : ∀ k, R k ∨ k = q → I k) : RefP W R q d la wa lc wc vs cs :=
  { h with
    block := keep_block' hk (hI q (.inr rfl)) h.block
    last := h.last.keep hk fun k hk => hI k (.inl hk)
    waits := h.waits.keep hk fun k hk => hI k (.inl hk)
    lt := fun k hk' => Nat.lt_of_lt_of_le (h.lt k hk') hk.1 }
theorem keep_below {I : Bks} {w W : World} (hb : Below w.heap.size w W) : Keep I w W := ⟨hb.size, fun k _ hl => hb.block k hl⟩
theorem RefP.below {w W : World} {R : Bks} {q : Nat} {d : Dk} {la wa : Option Addr} {lc wc : Nat} {vs : List FV} {cs : List CV} (h : RefP w R q d la wa lc wc vs cs) (hb : Below w.heap.size w W) : RefP W R q d la wa lc wc vs cs :=
  h.keep (I := fun _ => True) (keep_below hb) fun _ _ => trivial
theorem RefAt.keep {w W : World} {R I : Bks} {q N : Nat} {d : Dk} (h : RefAt w R q N d) (hk : Keep I w W) (hI : ∀ k, R k ∨ k = q → I k) : RefAt W R q N d := by
  obtain ⟨h1, h2, h3, la, wa, lc, wc, vs, cs, h⟩ := h; exact ⟨h1, h2, h3, la, wa, lc, wc, vs, cs, h.keep hk hI⟩
theorem RefAt.below {w W : World} {R : Bks} {q N : Nat} {d : Dk} (h : RefAt w R q N d) (hb : Below w.heap.size w W) : RefAt W R q N d := h.keep (I := fun _ => True) (keep_below hb) fun _ _ => trivial
theorem RefAt.lt {w : World} {R : Bks} {q N : Nat} {d : Dk} (h : RefAt w R q N d) : ∀ k, R k → k < w.heap.size := by
  obtain ⟨_, _, _, _, _, _, _, _, _, h⟩ := h; exact h.lt
theorem RefAt.q_lt {w : World} {R : Bks} {q N : Nat} {d : Dk} (h : RefAt w R q N d) : q < w.heap.size := by
  obtain ⟨_, _, _, _, _, _, _, _, _, h⟩ := h; exact lt_of_block h.block
theorem RefAt.mono {w : World} {R : Bks} {q N N' : Nat} {d : Dk} (h : RefAt w R q N d) (hN : N ≤ N') : RefAt w R q N' d := by
  obtain ⟨h1, h2, h3, h⟩ := h; exact ⟨h1, by omega, by omega, h⟩
theorem RefP.c0 {w : World} {R : Bks} {q : Nat} {d : Dk} {la wa : Option Addr} {lc wc : Nat} {vs : List FV} {cs : List CV} (h : RefP w R q d la wa lc wc vs cs) : w.cell? ⟨q, 0, none⟩ = some (.slice la vs.length lc) := by rw [Go.Joins.cell_of_block h.block]; rfl
theorem RefP.c1 {w : World} {R : Bks} {q : Nat} {d : Dk} {la wa : Option Addr} {lc wc : Nat} {vs : List FV} {cs : List CV} (h : RefP w R q d la wa lc wc vs cs) : w.cell? ⟨q, 1, none⟩ = some (.slice wa cs.length wc) := by rw [Go.Joins.cell_of_block h.block]; rfl
theorem RefP.c2 {w : World} {R : Bks} {q : Nat} {d : Dk} {la wa : Option Addr} {lc wc : Nat} {vs : List FV} {cs : List CV} (h : RefP w R q d la wa lc wc vs cs) : w.cell? ⟨q, 2, none⟩ = some (.int .i64 (d.cap : Nat)) := by rw [Go.Joins.cell_of_block h.block]; rfl
theorem RefP.c3 {w : World} {R : Bks} {q : Nat} {d : Dk} {la wa : Option Addr} {lc wc : Nat} {vs : List FV} {cs : List CV} (h : RefP w R q d la wa lc wc vs cs) : w.cell? ⟨q, 3, none⟩ = some (.int .u64 (d.serial : Nat)) := by rw [Go.Joins.cell_of_block h.block]; rfl
theorem RefP.c4 {w : World} {R : Bks} {q : Nat} {d : Dk} {la wa : Option Addr} {lc wc : Nat} {vs : List FV} {cs : List CV} (h : RefP w R q d la wa lc wc vs cs) : w.cell? ⟨q, 4, none⟩ = some (.bool d.down) := by rw [Go.Joins.cell_of_block h.block]; rfl
theorem RefP.fz {w : World} {R : Bks} {q : Nat} {d : Dk} {la wa : Option Addr} {lc wc : Nat} {vs : List FV} {cs : List CV} (h : RefP w R q d la wa lc wc vs cs) (i : Nat) : w.frozen? ⟨q, i, none⟩ = false := by simp [World.frozen?, h.block]
theorem put_length (F : Fs) (n b : Bs) : (F.put n b).length ≤ F.length + 1 := by
  induction F with
  | nil => simp [Fs.put]
  | cons p r ih =>
    obtain ⟨k, c⟩ := p
    unfold Fs.put
    split
    · simp
    · split
      · simp
      · simp only [List.length_cons]; omega
theorem del_length (F : Fs) (n : Bs) : (F.del n).length ≤ F.length := List.length_filter_le _ _
theorem do_length (c : Ch) (F : Fs) : (c.do F).length ≤ F.length + 1 := by
  cases c with
  | app n t => exact put_length _ _ _
  | put n t => exact put_length _ _ _
  | ren n m => exact Nat.le_trans (del_length _ _) (put_length _ _ _)
  | rem n => exact Nat.le_trans (del_length _ _) (Nat.le_succ _)
theorem tear_length (c : Ch) (k : Int) (F : Fs) : (c.tear k F).length ≤ F.length + 1 := by
  cases c with
  | app n t =>
    simp only [Ch.tear]
    split
    · exact put_length _ _ _
    · exact Nat.le_succ _
  | put n t => exact Nat.le_succ _
  | ren n m => exact Nat.le_succ _
  | rem n => exact Nat.le_succ _
theorem doAll_length : ∀ (cs : List Ch) (F : Fs), (doAll cs F).length ≤ F.length + cs.length
  | [], F => by simp [doAll]
  | c :: cs, F => by
    have h1 := doAll_length cs (c.do F)
    have h2 := do_length c F
    have h3 : doAll (c :: cs) F = doAll cs (c.do F) := rfl
    rw [h3, List.length_cons]
    omega
theorem ChsIn.at {R : Bks} {w : World} {v : Value} {l : List CV} (h : ChsIn R w v l) : ∃ a cap, v = .slice a l.length cap ∧ l.length ≤ 9223372036854775807 ∧ (0 < l.length → ∃ b off, a = some ⟨b, off, none⟩ ∧ b < w.heap.size ∧ R b ∧ ∀ j x, l[j]? = some x → w.cell? ⟨b, off + j * 4, none⟩ = some (.int .i64 x.o) ∧ w.cell? ⟨b, off + j * 4 + 1, none⟩ = some (.string ⟨x.n.toArray⟩) ∧ w.cell? ⟨b, off + j * 4 + 2, none⟩ = some (.string ⟨x.t.toArray⟩) ∧ w.cell? ⟨b, off + j * 4 + 3, none⟩ = some (.slice x.a x.b.length x.c)) := by
  obtain ⟨⟨a, cap, rfl, hl, _, _, h⟩, _⟩ := h
  refine ⟨a, cap, rfl, hl, fun h0 => ?_⟩
  obtain ⟨b, off, ha, hb, hR, hc⟩ := h h0
  exact ⟨b, off, ha, hb, hR, fun j x hj => ⟨hc j x hj 0 (by omega), hc j x hj 1 (by omega), hc j x hj 2 (by omega), hc j x hj 3 (by omega)⟩⟩
theorem take_ch {cs : List CV} {k : Nat} {x : CV} (h : cs[k]? = some x) : (cs.map CV.ch).take (k + 1) = (cs.map CV.ch).take k ++ [x.ch] := by
  rw [List.take_add_one, List.getElem?_map, h]; rfl
set_option maxRecDepth 100000 in
set_option maxHeartbeats 4000000 in
/-- Seen: what lasts, with all that waits done -/
theorem seen_any {w : World} {R : Bks} {q N : Nat} {d : Dk} (h : RefAt w R q N d) (hN : N ≤ 400000) (R' : Bks) (hR' : ∀ k, R k → R' k) (hR : ∀ k, w.heap.size ≤ k → R' k) :
    Calls Try.prog 53 #[.pointer (some ⟨q, 0, none⟩)] w (GivesFs R' w d.seen) := by
  obtain ⟨hok, hlen, _, la, wa, lc, wc, vs, cs, h⟩ := h
  have HBLK : Hid (∀ W, Below w.heap.size w W → W.cell? ⟨q, 0, none⟩ = some (.slice la vs.length lc) ∧ W.cell? ⟨q, 1, none⟩ = some (.slice wa cs.length wc)) := fun W hb => by
    have := h.below hb
    exact ⟨this.c0, this.c1⟩
  have HV : Hid (FilesIn R' w (.slice la vs.length lc) vs) := h.last.wide fun k _ hk => hR' k hk
  have HCB : Hid (∀ x ∈ cs, BytesIn R' w x.u x.b ∧ x.ok) := fun x hx => ⟨(h.waits.2 x hx).1.wide fun k _ hk => hR' k hk, (h.waits.2 x hx).2⟩
  have HC : Hid (0 < cs.length → ∃ b off, wa = some ⟨b, off, none⟩ ∧ b < w.heap.size ∧ ∀ j x, cs[j]? = some x → w.cell? ⟨b, off + j * 4, none⟩ = some (.int .i64 x.o) ∧ w.cell? ⟨b, off + j * 4 + 1, none⟩ = some (.string ⟨x.n.toArray⟩) ∧ w.cell? ⟨b, off + j * 4 + 2, none⟩ = some (.string ⟨x.t.toArray⟩) ∧ w.cell? ⟨b, off + j * 4 + 3, none⟩ = some (.slice x.a x.b.length x.c)) := fun h0 => by
    obtain ⟨a, cap, e, _, hc⟩ := h.waits.at
    cases e
    obtain ⟨b, off, ha, hb, _, hcell⟩ := hc h0
    exact ⟨b, off, ha, hb, hcell⟩
  have hcl : cs.length = d.waits.length := by rw [← h.waitsAre, List.length_map]
  have hvl : vs.length = d.synced.length := by rw [← h.lastIs, List.length_map]
  have HFIT : Hid (∀ k, k ≤ cs.length → Fs.ok (doAll (d.waits.take k) d.synced) ∧ (doAll (d.waits.take k) d.synced).total ≤ 1000000 ∧ (doAll (d.waits.take k) d.synced).length ≤ 900000) := fun k hk => by
    refine ⟨doAll_ok _ hok.rises, ?_, ?_⟩
    · have h1 := hok.fits k (by omega); have h2 := hok.cap; omega
    · have h1 := doAll_length (d.waits.take k) d.synced
      rw [List.length_take] at h1
      omega
  have HNX : Hid (∀ k x, cs[k]? = some x → doAll (d.waits.take (k + 1)) d.synced = x.ch.do (doAll (d.waits.take k) d.synced)) := fun k x hx => by
    rw [← h.waitsAre, take_ch hx, doAll_snoc]
  have HEND : Hid (doAll (d.waits.take cs.length) d.synced = d.seen) := by
    show _ = d.seen
    rw [List.take_of_length_le (by omega), ← hok.sees]
  have HST : Hid (fsOf vs = doAll (d.waits.take 0) d.synced) := h.lastIs
  have HRR := Lib.hid hR
  have hcl9 : cs.length ≤ 400000 := by omega
  obtain ⟨K, hK⟩ : ∃ K, cs.length = K := ⟨_, rfl⟩
  have HK := Lib.hid hK
  rw [hK] at HBLK HC HFIT HEND hcl9
  clear h hok hlen hN hR' hR hcl hvl hK
  have h0 := (HBLK.out w (Below.refl _ _)).1
  go_enter Try.func53, Try.ntmps53
  go_wp2
  clear h0
  go_loopw [3, 4] (fun l i wr => ∃ (k : Nat) (us : List FV) (ua : Option Addr) (uc : Nat), k ≤ K ∧ i = .int .i64 (k : Nat) ∧ l = .slice ua us.length uc ∧ Hid (FilesIn R' wr (.slice ua us.length uc) us ∧ fsOf us = doAll (d.waits.take k) d.synced ∧ Below w.heap.size w wr)) (fun _ i _ => K - (intOf i).toNat)
  case atStart => exact ⟨0, vs, la, lc, Nat.zero_le _, rfl, rfl, HV.out, HST.out, Below.refl _ _⟩
  case round =>
    obtain ⟨k, us, ua, uc, hk, rfl, rfl, HI⟩ := hrel
    have h1 := (HBLK.out wr HI.out.2.2).2
    by_cases hlt : k < K
    · obtain ⟨b, off, rfl, hb, hcell⟩ := HC.out (by omega)
      obtain ⟨x, hx⟩ : ∃ x, cs[k]? = some x := ⟨_, List.getElem?_eq_getElem (by rw [HK.out]; exact hlt)⟩
      obtain ⟨e0, e1, e2, e3⟩ := hcell k x hx
      rw [← HI.out.2.2.cell (show (⟨b, off + k * 4, none⟩ : Addr).block < _ from hb)] at e0
      rw [← HI.out.2.2.cell (show (⟨b, off + k * 4 + 1, none⟩ : Addr).block < _ from hb)] at e1
      rw [← HI.out.2.2.cell (show (⟨b, off + k * 4 + 2, none⟩ : Addr).block < _ from hb)] at e2
      rw [← HI.out.2.2.cell (show (⟨b, off + k * 4 + 3, none⟩ : Addr).block < _ from hb)] at e3
      obtain ⟨f1, f2, f3⟩ := HFIT.out k hk
      have hcb := HCB.out x (List.mem_of_getElem? hx)
      have hus := HI.out.2.1
      have husl : us.length ≤ 900000 := by
        have : us.length = (doAll (d.waits.take k) d.synced).length := by rw [← hus, List.length_map]
        omega
      have HD := Lib.hid (done_any (.slice ua us.length uc) us x wr HI.out.1 (hcb.1.below HI.out.2.2 (Nat.le_refl _)) hcb.2 (fun k hk => HRR.out k (Nat.le_trans HI.out.2.2.size hk)) husl (by rw [hus]; exact f1) (by rw [hus]; exact f2))
      rw [hus, ← HNX.out k x hx] at HD
      obtain ⟨xo, xn, xt, xb, xa, xc⟩ := x
      dsimp only at e0 e1 e2 e3
      have HD2 : Hid (Calls Try.prog 69 #[.slice ua us.length uc, .agg #[.int .i64 xo, .string ⟨xn.toArray⟩, .string ⟨xt.toArray⟩, .slice xa xb.length xc]] wr (GivesFs R' wr (doAll (d.waits.take (k + 1)) d.synced))) := HD.out
      obtain ⟨XL, hXL⟩ : ∃ XL, xb.length = XL := ⟨_, rfl⟩
      obtain ⟨UL, hUL⟩ : ∃ UL, us.length = UL := ⟨_, rfl⟩
      rw [hXL, hUL] at HD2
      rw [hXL] at e3
      rw [hUL]
      have HB := Lib.hid HI.out.2.2
      clear hx hcell f1 f2 f3 hcb hus husl HD HI hXL hUL
      go_wp2_with fail
      refine HD2.out.mono ?_
      rintro e w3 ⟨us3, a3, c3, rfl, hf3, hF3, hb3⟩
      have H3 := Lib.hid (And.intro hf3 (And.intro hF3 (HB.out.trans (hb3.mono HB.out.size))))
      clear hf3 hF3 hb3 e0 e1 e2 e3 h1
      go_wp2
      go_roundw
      case rel => exact ⟨k + 1, us3, a3, c3, by omega, by go_num, rfl, H3.out⟩
      case measure => simp [intOf]; omega
    · obtain rfl : k = K := by omega
      go_wp2
      go_ret
      exact ⟨us, ua, uc, rfl, HI.out.1, by rw [HI.out.2.1]; exact HEND.out, HI.out.2.2⟩
end Go.Proofs.Yticbfnflillokaa
