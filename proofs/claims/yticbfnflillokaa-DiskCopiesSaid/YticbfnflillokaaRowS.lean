/- stands: a disk and the document's disk, wherever they lie, are one. -/
import Derived.Test.YticbfnflillokaaRowG
namespace Go.Proofs.Yticbfnflillokaa
open Go.RowKit
def Pal (wi : World) (p q N M : Nat) (d : Dk) : Prop := (∃ O I, DiskAt wi O I p N d) ∧ ∃ R, RefAt wi R q M d
theorem Duo.pal {w : Fr} {wi : World} {K : Bks} {p q N M : Nat} {d : Dk} (h : Duo w K wi p q N M d d) : Pal wi p q N M d := by
  obtain ⟨R, ⟨O, I, h1, _⟩, h2, _⟩ := h
  exact ⟨⟨O, I, h1⟩, R, h2⟩
theorem Pal.still {wi w' : World} {p q N M : Nat} {d : Dk} (h : Pal wi p q N M d) (hb : Below wi.heap.size wi w') : Pal w' p q N M d := by
  obtain ⟨⟨O, I, h1⟩, R, h2⟩ := h
  exact ⟨⟨O, I, h1.below hb (Nat.le_refl _)⟩, R, h2.below hb⟩
set_option maxRecDepth 100000 in
theorem capacity_any {w : World} {O I : Nat → Prop} {p N : Nat} {d : Dk} (h : DiskAt w O I p N d) : Calls Try.prog 30 #[.pointer (some ⟨p, 0, none⟩)] w fun e w' => e = .returned (.int .i64 (d.cap : Nat)) ∧ w = w' := by
  obtain ⟨n1, n2, hr⟩ := h.raw
  have HM := Lib.hid (isMade_yes p w hr.c8)
  have c2 := hr.c2
  clear hr h
  go_enter Try.func30, Try.ntmps30
  go_wp2_with (go_at_call 35; refine HM.out.mono ?_; rintro e w1 ⟨rfl, rfl⟩)
  go_ret
  exact ⟨rfl, rfl⟩
theorem DiskAt.named {w : World} {O I : Bks} {p N : Nat} {d : Dk} (h : DiskAt w O I p N d) : ∀ k l, d.seen.get k = some l → isName k = true := by
  obtain ⟨n1, n2, m1, m2, wv, vs, S1, S2, hp⟩ := h.raw
  obtain ⟨M, _, _, _, _, _, h1, _⟩ := hp.two
  exact fun k l hk => (h1 k l hk).1
theorem swap_eq {f m : Nat} {args : Array Value} {w : World} {v : Value} (h : Calls Try.prog f args (w.drewN m) fun e w' => e = .returned v ∧ w.drewN m = w') : Calls Try.prog f args (w.drewN m) fun e w' => e = .returned v ∧ ∃ k, w' = w.drewN k :=
  h.mono fun _ _ ⟨he, hb⟩ => ⟨he, m, hb.symm⟩
theorem below_drewN {w : World} (m : Nat) : Below w.heap.size w (w.drewN m) := ⟨rfl, rfl, rfl, Nat.le_refl _, fun _ _ => rfl⟩
theorem get_at {F : Fs} (h : F.ok) {i : Nat} {k b : Bs} (hi : F[i]? = some (k, b)) : F.get k = some b := by
  induction F generalizing i with
  | nil => simp at hi
  | cons p r ih =>
    obtain ⟨k', b'⟩ := p
    obtain ⟨h1, h2⟩ := List.pairwise_cons.1 h
    cases i with
    | zero => simp at hi; obtain ⟨rfl, rfl⟩ := hi; simp [Fs.get]
    | succ i =>
      have hi' : r[i]? = some (k, b) := by simpa using hi
      have hm := List.mem_of_getElem? hi'
      have := h1 _ hm
      have hne : k ≠ k' := fun e => by subst e; exact blt_irrefl _ this
      simp only [Fs.get, if_neg hne]
      exact ih h2 hi'
set_option maxRecDepth 100000 in
set_option maxHeartbeats 8000000 in
theorem stands_any {wi : World} {p q N M : Nat} {d : Dk} (h : Pal wi p q N M d) (hN : N ≤ 400000) (hM : M ≤ 400000) :
    Calls Try.prog 17 #[.pointer (some ⟨p, 0, none⟩), .pointer (some ⟨q, 0, none⟩)] wi fun e w' => e = .returned (.bool true) ∧ Below wi.heap.size wi w' := by
  have HP : Hid (∀ W, Below wi.heap.size wi W → Pal W p q N M d) := fun W hb => h.still hb
  have HSER : Hid (∀ m, Calls Try.prog 29 #[.pointer (some ⟨p, 0, none⟩)] (wi.drewN m) fun e w' => e = .returned (.int .u64 (d.serial : Nat)) ∧ ∃ k, w' = wi.drewN k) := fun m => by
    obtain ⟨O, I, h1⟩ := (HP.out _ (below_drewN m)).1; exact swap_eq (serial_any h1)
  have HCAP : Hid (∀ m, Calls Try.prog 30 #[.pointer (some ⟨p, 0, none⟩)] (wi.drewN m) fun e w' => e = .returned (.int .i64 (d.cap : Nat)) ∧ ∃ k, w' = wi.drewN k) := fun m => by
    obtain ⟨O, I, h1⟩ := (HP.out _ (below_drewN m)).1; exact swap_eq (capacity_any h1)
  have HDN : Hid (∀ m, Calls Try.prog 31 #[.pointer (some ⟨p, 0, none⟩)] (wi.drewN m) fun e w' => e = .returned (.bool d.down) ∧ ∃ k, w' = wi.drewN k) := fun m => by
    obtain ⟨O, I, h1⟩ := (HP.out _ (below_drewN m)).1
    obtain ⟨n1, n2, hr⟩ := h1.raw
    exact swap_eq (down_yes p d.down _ hr.c8 hr.c4)
  obtain ⟨R, hr0⟩ := h.2
  have HSEEN : Hid (∀ W, Below wi.heap.size wi W → Calls Try.prog 53 #[.pointer (some ⟨q, 0, none⟩)] W (GivesFs (fun _ => True) W d.seen)) := fun W hb => seen_any (hr0.below hb) hM (fun _ => True) (fun _ _ => trivial) fun _ _ => trivial
  have HNAM : Hid (∀ W, Below wi.heap.size wi W → Calls Try.prog 26 #[.pointer (some ⟨p, 0, none⟩)] W (GivesStrs W d.told)) := fun W hb => by
    obtain ⟨O, I, h1⟩ := (HP.out W hb).1; exact names_any h1 hN
  have HBYT : Hid (∀ W, Below wi.heap.size wi W → Calls Try.prog 27 #[.pointer (some ⟨p, 0, none⟩)] W fun e w' => e = .returned (.int .i64 ((if d.down then 0 else d.seen.total : Nat) : Int)) ∧ W = w') := fun W hb => by
    obtain ⟨O, I, h1⟩ := (HP.out W hb).1; exact bytes_any h1
  have HWAI : Hid (∀ W, Below wi.heap.size wi W → Calls Try.prog 28 #[.pointer (some ⟨p, 0, none⟩)] W fun e w' => e = .returned (.int .i64 ((if d.down then 0 else d.waits.length : Nat) : Int)) ∧ W = w') := fun W hb => by
    obtain ⟨O, I, h1⟩ := (HP.out W hb).1; exact waits_any h1
  have HREAD : Hid (∀ W k, Below wi.heap.size wi W → k.length ≤ maxLen → Calls Try.prog 18 #[.pointer (some ⟨p, 0, none⟩), .string ⟨k.toArray⟩] W (Reads W d k)) := fun W k hb hk => by
    obtain ⟨O, I, h1⟩ := (HP.out W hb).1; exact read_any h1 k hk
  have HSIZ : Hid (∀ W k, Below wi.heap.size wi W → isName k = true → Calls Try.prog 25 #[.pointer (some ⟨p, 0, none⟩), .string ⟨k.toArray⟩] W fun e w' => e = .returned (.int .i64 ((if d.down then 0 else d.seen.size k : Nat) : Int)) ∧ W = w') := fun W k hb hk => by
    obtain ⟨O, I, h1⟩ := (HP.out W hb).1; exact size_any' h1 k hk
  obtain ⟨hok, hlen, hs, la, wa, lc, wc, vs, cs, hr⟩ := hr0
  have HNM : Hid (∀ k l, d.seen.get k = some l → isName k = true) := by obtain ⟨⟨O, I, h1⟩, _⟩ := h; exact h1.named
  have hcl : cs.length = d.waits.length := by rw [← hr.waitsAre, List.length_map]
  have HQ : Hid (∀ W, Below wi.heap.size wi W → W.cell? ⟨q, 3, none⟩ = some (.int .u64 (d.serial : Nat)) ∧ W.cell? ⟨q, 2, none⟩ = some (.int .i64 (d.cap : Nat)) ∧ W.cell? ⟨q, 4, none⟩ = some (.bool d.down) ∧ W.cell? ⟨q, 1, none⟩ = some (.slice wa d.waits.length wc)) := fun W hb => by
    have := hr.below hb
    exact ⟨this.c3, this.c2, this.c4, by rw [this.c1, hcl]⟩
  have htot := hok.total
  have hcap := hok.cap
  have HSO := Lib.hid hok.seenok
  have HTOT : Hid (d.seen.total ≤ 1000000) := by show d.seen.total ≤ 1000000; omega
  have k1 : (((d.serial : Nat) : Int) == ((d.serial : Nat) : Int)) = true := by simp
  have k2 : (((d.cap : Nat) : Int) == ((d.cap : Nat) : Int)) = true := by simp
  obtain ⟨s1, hs1⟩ : ∃ s : Nat, d.serial = s := ⟨_, rfl⟩
  obtain ⟨s2, hs2⟩ : ∃ s : Nat, d.cap = s := ⟨_, rfl⟩
  obtain ⟨s3, hs3⟩ : ∃ s : Nat, d.waits.length = s := ⟨_, rfl⟩
  obtain ⟨s4, hs4⟩ : ∃ s : Nat, d.seen.total = s := ⟨_, rfl⟩
  rw [hs1] at HSER HQ k1
  rw [hs2] at HCAP HQ k2
  rw [hs3] at HQ HWAI
  rw [hs4] at HBYT
  have HS4 := Lib.hid hs4
  have k3 : ((s3 : Int) == (s3 : Int)) = true := by simp
  have k4 : ((s4 : Int) == (s4 : Int)) = true := by simp
  obtain ⟨q3, q2, q4, q1⟩ := HQ.out wi (Below.refl _ _)
  clear h hr hok hlen hs hcl htot hcap hs1 hs2 hs3 hs4 hN hM
  cases hd : d.down
  case true =>
    rw [hd] at HDN HBYT HWAI q4 HQ
    have HT : Hid (d.told = []) := by show d.told = []; unfold Dk.told; rw [hd]; rfl
    go_enter Try.func17, Try.ntmps17
    go_wp2_with fail
    go_quiet (first | exact HSER.out _ | exact HCAP.out _ | exact HDN.out _)
    generalize hw2 : wi.drewN _ = w2
    have hb2 : Below wi.heap.size wi w2 := by rw [← hw2]; exact below_drewN _
    have HB2 := Lib.hid hb2
    clear hw2 hb2 q1 q2 q3 q4
    go_wp2_with fail
    refine (HSEEN.out w2 HB2.out).mono ?_
    rintro e w3 ⟨us, ua, uc, rfl, _, _, hb3⟩
    have HB3 := Lib.hid (HB2.out.trans (hb3.mono HB2.out.size))
    clear hb3
    go_wp2_with fail
    refine (HNAM.out w3 HB3.out).mono ?_
    rintro e w4 ⟨v4, rfl, ho4, hb4⟩
    rw [HT.out] at ho4
    obtain ⟨na, nc, e4⟩ := str_form ho4
    subst e4
    have HB4 := Lib.hid (HB3.out.trans (hb4.mono HB3.out.size))
    obtain ⟨q3, q2, q4, q1⟩ := HQ.out w4 HB4.out
    clear ho4 hb4 q1 q2 q3
    go_wp2_with fail
    refine (HBYT.out w4 HB4.out).mono ?_
    rintro e w5 ⟨rfl, rfl⟩
    go_wp2_with fail
    refine (HWAI.out w4 HB4.out).mono ?_
    rintro e w5 ⟨rfl, rfl⟩
    go_wp2
    go_ret
    exact ⟨rfl, HB4.out⟩
  case false =>
  rw [hd] at HDN HBYT HWAI q4 HQ HSIZ
  have HT : Hid (d.told = d.seen.names) := by show d.told = _; unfold Dk.told; rw [hd]; rfl
  have HLK : Hid (∀ k b, d.seen.get k = some b → lack d k [] = 0) := fun k b hk => by
    unfold lack refuse; simp [hd, HNM.out k b hk, hk]
  go_enter Try.func17, Try.ntmps17
  go_wp2_with fail
  go_quiet (first | exact HSER.out _ | exact HCAP.out _ | exact HDN.out _)
  generalize hw2 : wi.drewN _ = w2
  have hb2 : Below wi.heap.size wi w2 := by rw [← hw2]; exact below_drewN _
  have HB2 := Lib.hid hb2
  clear hw2 hb2 q1 q2 q3 q4
  go_wp2_with fail
  refine (HSEEN.out w2 HB2.out).mono ?_
  rintro e w3 ⟨us, ua, uc, rfl, hf3, hF3, hb3⟩
  have HB3 := Lib.hid (HB2.out.trans (hb3.mono HB2.out.size))
  go_wp2_with fail
  refine (HNAM.out w3 HB3.out).mono ?_
  rintro e w4 ⟨v4, rfl, ho4, hb4⟩
  rw [HT.out] at ho4
  obtain ⟨na, nc, e4⟩ := str_form ho4
  subst e4
  have HB4 := Lib.hid (HB3.out.trans (hb4.mono HB3.out.size))
  obtain ⟨UL, hUL⟩ : ∃ UL, us.length = UL := ⟨_, rfl⟩
  have hnl : d.seen.names.length = UL := by rw [← hF3, ← hUL]; simp [Fs.names]
  have HF4 : Hid (FilesIn (fun _ => True) w4 (.slice ua us.length uc) us) := hf3.below hb4
  have HSZ := Lib.hid (fun m => swap_eq (rsize_any (.slice ua us.length uc) us (w4.drewN m) (HF4.out.below (below_drewN m)) (by rw [hF3]; exact HTOT.out)))
  rw [hF3, HS4.out, hUL] at HSZ
  have HSTR := Lib.hid ho4.strsIn
  rw [hnl] at HSTR ⊢
  have HF3 := Lib.hid hF3
  have HUL := Lib.hid hUL
  rw [hUL] at ⊢
  have kU : ((UL : Int) == (UL : Int)) = true := by simp
  have HB4B := Lib.hid (fun m => swap_eq (HBYT.out (w4.drewN m) (HB4.out.trans ((below_drewN m).mono HB4.out.size))))
  have HB4W := Lib.hid (fun m => swap_eq (HWAI.out (w4.drewN m) (HB4.out.trans ((below_drewN m).mono HB4.out.size))))
  obtain ⟨q3, q2, q4, q1⟩ := HQ.out w4 HB4.out
  clear hf3 hF3 hb3 ho4 hb4 q2 q3 hUL hnl
  go_wp2_with fail
  go_quiet (first | exact HB4B.out _ | exact HSZ.out _ | exact HB4W.out _)
  generalize hw5 : w4.drewN _ = w5
  have HB5 : Hid (Below w4.heap.size w4 w5) := by show Below _ _ _; rw [← hw5]; exact below_drewN _
  have HCELL : Hid (∀ W, Below w4.heap.size w4 W → 0 < UL → ∃ b off nb, ua = some ⟨b, off, none⟩ ∧ na = some ⟨nb, 0, none⟩ ∧ ∀ j x, us[j]? = some x → W.cell? ⟨b, off + j * 2, none⟩ = some (.string ⟨x.n.toArray⟩) ∧ W.cell? ⟨b, off + j * 2 + 1, none⟩ = some (.slice x.a x.b.length x.c) ∧ W.cell? ⟨nb, j, none⟩ = some (.string ⟨x.n.toArray⟩) ∧ BytesAt W x.u x.b) := fun W hb h0 => by
    have hfW := HF4.out.below hb
    obtain ⟨a, cap, e, _, hc⟩ := hfW.at
    cases e
    obtain ⟨b, off, rfl, _, _, hcell⟩ := hc (by rw [HUL.out]; exact h0)
    have hnl : d.seen.names.length = UL := by rw [← HF3.out, ← HUL.out]; simp [Fs.names]
    obtain ⟨a', cap', e', _, _, hn⟩ := HSTR.out
    injection e' with e1 e2 e3
    subst e1
    obtain ⟨nb, rfl, _, hnb, hnc⟩ := hn (by rw [hnl]; exact h0)
    refine ⟨b, off, nb, rfl, rfl, fun j x hx => ⟨(hcell j x hx).1, (hcell j x hx).2, ?_, hfW.2 x (List.mem_of_getElem? hx)⟩⟩
    rw [hb.cell (show (⟨nb, j, none⟩ : Addr).block < _ from hnb)]
    refine hnc j x.n ?_
    rw [← HF3.out]
    simp [Fs.names, fsOf, hx, FV.kv]
  have HGET : Hid (∀ (j : Nat) x, us[j]? = some x → d.seen.get x.n = some x.b) := fun j x hx => get_at HSO.out (i := j) (by rw [← HF3.out]; simp [fsOf, hx, FV.kv])
  have hULm : UL ≤ 9223372036854775807 := by
    obtain ⟨a, cap, _, hm, _⟩ := HF4.out.at
    rw [HUL.out] at hm
    exact hm
  clear hw5 q4 q1
  go_wp2_with fail
  go_loopw [7] (fun i wr => ∃ k : Nat, k ≤ UL ∧ i = .int .i64 (k : Nat) ∧ Hid (Below w4.heap.size w4 wr)) (fun i _ => UL - (intOf i).toNat)
  case atStart => exact ⟨0, Nat.zero_le _, rfl, HB5.out⟩
  case round =>
    obtain ⟨k, hk, rfl, HI⟩ := hrel
    by_cases hlt : k < UL
    · obtain ⟨b, off, nb, rfl, rfl, hcl⟩ := HCELL.out wr HI.out (by omega)
      obtain ⟨x, hx⟩ : ∃ x, us[k]? = some x := ⟨_, List.getElem?_eq_getElem (by rw [HUL.out]; exact hlt)⟩
      obtain ⟨e0, e1, e2, e3⟩ := hcl k x hx
      have HC2 : Hid (∀ W, Below w4.heap.size w4 W → W.cell? ⟨b, off + k * 2, none⟩ = some (.string ⟨x.n.toArray⟩) ∧ W.cell? ⟨b, off + k * 2 + 1, none⟩ = some (.slice x.a x.b.length x.c) ∧ W.cell? ⟨nb, k, none⟩ = some (.string ⟨x.n.toArray⟩) ∧ BytesAt W x.u x.b) := fun W hb => by
        obtain ⟨b', off', nb', h1, h2, h3⟩ := HCELL.out W hb (by omega)
        cases h1
        cases h2
        exact h3 k x hx
      have hg := HGET.out k x hx
      have hnm := HNM.out _ _ hg
      have hl0 := HLK.out _ _ hg
      have hbi := HB4.out.trans (HI.out.mono HB4.out.size)
      have hrd := HREAD.out wr x.n hbi (by have := isName_le hnm; unfold maxLen; omega)
      unfold Reads at hrd
      rw [hl0, hg, if_pos rfl, Option.getD_some] at hrd
      have HRD := Lib.hid hrd
      have HSZX : Hid (∀ W, Below w4.heap.size w4 W → ∀ m, Calls Try.prog 25 #[.pointer (some ⟨p, 0, none⟩), .string ⟨x.n.toArray⟩] (W.drewN m) fun e w' => e = .returned (.int .i64 (x.b.length : Nat)) ∧ ∃ k, w' = W.drewN k) := fun W hb m => by
        have := swap_eq (HSIZ.out (W.drewN m) x.n (HB4.out.trans ((hb.trans ((below_drewN m).mono hb.size)).mono HB4.out.size)) hnm)
        have e : d.seen.size x.n = x.b.length := by unfold Fs.size; rw [hg]; rfl
        simpa [e] using this
      obtain ⟨xn, xb, xa, xc⟩ := x
      dsimp only at e0 e1 e2 HC2 HRD HSZX
      obtain ⟨XL, hXL⟩ : ∃ XL, xb.length = XL := ⟨_, rfl⟩
      rw [hXL] at e1 HC2 HSZX
      have HXL := Lib.hid hXL
      obtain ⟨SB, hSB⟩ : ∃ SB : ByteArray, (⟨xb.toArray⟩ : ByteArray) = SB := ⟨_, rfl⟩
      have HSB := Lib.hid hSB
      clear hcl hx e1 e2 e3 hg hnm hl0 hbi hrd hXL hSB
      go_wp2_with fail
      refine HRD.out.mono ?_
      rintro e w6 ⟨v6, rfl, ho6, hb6⟩
      obtain ⟨pa, pc, ev⟩ := ho6.form
      rw [HXL.out] at ev
      subst ev
      have hb46 := HI.out.trans (hb6.mono HI.out.size)
      obtain ⟨g0, g1, g2, g3⟩ := HC2.out w6 hb46
      have t1 := fun m => string_bytes (I := fun _ => True) (ho6.at.below (below_drewN m) (Nat.le_refl _))
      have t2 := fun m => string_bytes (I := fun _ => True) (BytesIn.below g3 (below_drewN (w := w6) m) (Nat.le_refl _))
      rw [HSB.out] at t1 t2
      unfold FV.u at t2
      dsimp only at t2
      rw [HXL.out] at t2
      have HSQ := Lib.hid (HSZX.out w6 hb46)
      have HEND : Hid (∀ m, Below w4.heap.size w4 (w6.drewN m)) := fun m => hb46.trans ((below_drewN m).mono hb46.size)
      have kx : (xn == xn) = true := by simp
      have ks : (SB.toList == SB.toList) = true := by simp
      have kX : ((XL : Int) == (XL : Int)) = true := by simp
      clear ho6 hb6 hb46 g3 e0
      go_wp2_with fail
      go_quiet (exact HSQ.out _)
      go_wp2
      go_roundw
      case rel => exact ⟨k + 1, by omega, by go_num, HEND.out _⟩
      case measure => simp [intOf]; omega
    · obtain rfl : k = UL := by omega
      go_wp2
      go_ret
      exact ⟨rfl, HB4.out.trans (HI.out.mono HB4.out.size)⟩
end Go.Proofs.Yticbfnflillokaa
