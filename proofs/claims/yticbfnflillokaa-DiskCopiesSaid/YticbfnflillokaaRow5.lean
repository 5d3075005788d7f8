/- The document's with. -/
import Derived.Test.YticbfnflillokaaRow4
import Derived.Sort.Walk0
namespace Go.Proofs.Yticbfnflillokaa
open Go.RowKit
def ins (f : FV) : List FV → List FV
  | [] => [f]
  | x :: r => if f.n < x.n then f :: x :: r else x :: ins f r
theorem ins_length (f : FV) (l : List FV) : (ins f l).length = l.length + 1 := by
  induction l with
  | nil => rfl
  | cons x r ih => unfold ins; split <;> simp [ih]
theorem ins_mem {f x : FV} {l : List FV} (h : x ∈ ins f l) : x = f ∨ x ∈ l := by
  induction l with
  | nil => left; simpa [ins] using h
  | cons y r ih =>
    unfold ins at h
    split at h
    · rcases List.mem_cons.1 h with h | h
      · exact .inl h
      · exact .inr h
    · rcases List.mem_cons.1 h with h | h
      · exact .inr (by simp [h])
      · rcases ih h with h | h
        · exact .inl h
        · exact .inr (by simp [h])
theorem ins_lo {f x : FV} {r : List FV} (h : f.n < x.n) : ins f (x :: r) = f :: x :: r := by
  show (if f.n < x.n then f :: x :: r else x :: ins f r) = _
  rw [if_pos h]
theorem ins_hi {f x : FV} {r : List FV} (h : ¬ f.n < x.n) : ins f (x :: r) = x :: ins f r := by
  show (if f.n < x.n then f :: x :: r else x :: ins f r) = _
  rw [if_neg h]
theorem ins_low (f : FV) (l : List FV) (h : ∀ x ∈ l, f.n < x.n) : ins f l = f :: l := by
  cases l with
  | nil => rfl
  | cons x r => unfold ins; rw [if_pos (h x (by simp))]
theorem fs_ins : ∀ (vs : List FV) (f : FV), (fsOf vs).ok → fsOf (ins f (vs.filter fun x => decide (x.n ≠ f.n))) = (fsOf vs).put f.n f.b
  | [], f, _ => rfl
  | x :: vs, f, h => by
    have h' : Fs.ok ((x.n, x.b) :: fsOf vs) := h
    obtain ⟨h1, h2⟩ := List.pairwise_cons.1 h'
    have hup : ∀ y ∈ vs, x.n < y.n := fun y hy => h1 (y.n, y.b) (List.mem_map.2 ⟨y, hy, rfl⟩)
    have ih := fs_ins vs f h2
    show _ = Fs.put ((x.n, x.b) :: fsOf vs) f.n f.b
    by_cases e : x.n = f.n
    · have hall : vs.filter (fun x => decide (x.n ≠ f.n)) = vs := List.filter_eq_self.2 fun y hy => by
        have := hup y hy
        rw [e] at this
        simp only [decide_eq_true_eq]
        intro he
        rw [he] at this
        exact blt_irrefl _ this
      rw [List.filter_cons_of_neg (by simp [e]), hall, ins_low f vs fun y hy => by rw [← e]; exact hup y hy]
      show (f.n, f.b) :: fsOf vs = _
      unfold Fs.put
      rw [if_pos e.symm]
    · rw [List.filter_cons_of_pos (by simp [e])]
      unfold ins
      by_cases hlt : f.n < x.n
      · have hall : vs.filter (fun x => decide (x.n ≠ f.n)) = vs := List.filter_eq_self.2 fun y hy => by
          have := blt_trans hlt (hup y hy)
          simp only [decide_eq_true_eq]
          intro he
          rw [he] at this
          exact blt_irrefl _ this
        rw [if_pos hlt, hall]
        show (f.n, f.b) :: (x.n, x.b) :: fsOf vs = _
        unfold Fs.put
        rw [if_neg (Ne.symm e), if_pos hlt]
      · rw [if_neg hlt]
        show (x.n, x.b) :: fsOf (ins f (vs.filter fun x => decide (x.n ≠ f.n))) = _
        rw [ih]
        conv => rhs; unfold Fs.put
        rw [if_neg (Ne.symm e), if_neg hlt]
theorem gt_other {a b : Bs} (h : b < a) : Op.bytesLess a b = false ∧ (a == b) = false := by
  have h1 : ¬ a < b := fun h2 => blt_irrefl _ (blt_trans h h2)
  refine ⟨by rw [bytesLess_eq]; simpa using h1, ?_⟩
  rw [beq_eq_false_iff_ne]
  exact fun e => blt_irrefl a (by rw [e] at h ⊢; exact h)
theorem gt_no {a b : Bs} (h : ¬ b < a) : (Op.bytesLess a b || a == b) = true := by
  rw [bytesLess_eq]
  by_cases e : a = b
  · simp [e]
  · have := blt_tri (Ne.symm e) h
    simp [this]
def Wing (w2 : World) (rs : List FV) (f : FV) (wr : World) (o : Value) (b : Bool) (k : Nat) : Prop := ∃ O, OwnRow 89 2 FV.enc w2.heap.size wr o O ∧ Below w2.heap.size w2 wr ∧ O ++ (if b then rs.drop k else ins f (rs.drop k)) = ins f rs
/-- an append to what is made -/
def Put1 (w2 : World) (wr : World) (o : Value) (O : List FV) : Prop := OwnRow 89 2 FV.enc w2.heap.size wr o O ∧ Below w2.heap.size w2 wr
theorem Put1.drewN {w2 wr : World} {o : Value} {O : List FV} (h : Put1 w2 wr o O) (m : Nat) : Put1 w2 (wr.drewN m) o O := ⟨h.1, h.2.os, h.2.tape, h.2.output, h.2.size, h.2.block⟩
theorem Put1.more {w2 wr w3 : World} {o v : Value} {O : List FV} {x : FV} {c : Obj} (h : Put1 w2 wr o O) (ho : OwnRow 89 2 FV.enc w2.heap.size w3 v (O ++ [x])) (hg : (wr.alloc c).grownBy w3 o.ownBlock) : Put1 w2 w3 v (O ++ [x]) :=
  ⟨ho, (h.2.alloc h.2.size c).grown hg (by rw [World.size_alloc]; have := h.2.size; omega) fun k hk => (h.1.lt k hk).1⟩
theorem Put1.more' {w2 wr w3 : World} {o v : Value} {O : List FV} {x : FV} {c : Obj} {n : Nat} (hn : n = O.length) (h : Put1 w2 wr o O) (ho : OwnRow 89 2 FV.enc w2.heap.size w3 v (O ++ [x])) (hg : (wr.alloc c).grownBy w3 o.ownBlock) : ∃ a c, v = .slice a (n + 1) c ∧ Put1 w2 w3 v (O ++ [x]) := by
  obtain ⟨a, c, e⟩ := ho.form
  exact ⟨a, c, by rw [e, hn, List.length_append]; rfl, h.more ho hg⟩
theorem Put1.alloc {w2 wr : World} {o : Value} {O : List FV} (h : Put1 w2 wr o O) (c : Obj) : OwnRow 89 2 FV.enc w2.heap.size (wr.alloc c) o O ∧ w2.heap.size ≤ (wr.alloc c).heap.size := ⟨World.ownsRow.alloc h.1 c, by rw [World.size_alloc]; have := h.2.size; omega⟩
set_option maxRecDepth 100000 in
set_option maxHeartbeats 4000000 in
theorem with_any {R : Bks} (v : Value) (vs : List FV) (f : FV) (w : World) (h : FilesIn R w v vs) (hf : BytesIn R w f.u f.b) (hR : ∀ k, w.heap.size ≤ k → R k) (hl : vs.length ≤ 900000) (hok : (fsOf vs).ok) :
    Calls Try.prog 75 #[v, .agg #[.string ⟨f.n.toArray⟩, f.u]] w (GivesFs R w ((fsOf vs).put f.n f.b)) := by
  have HFIN := Lib.hid (fs_ins vs f hok)
  obtain ⟨W1, hW1⟩ : ∃ W1, W1 = w.alloc (.cells #[.string ⟨f.n.toArray⟩, f.u] 89) := ⟨_, rfl⟩
  have hb1 : Below w.heap.size w W1 := by rw [hW1]; exact Go.Joins.below_alloc1 w _
  have HW := Lib.hid (without_raw v vs f.n W1 (h.below hb1) (fun k hk => hR k (Nat.le_trans hb1.size hk)) hl)
  have hbox : W1.heap[w.heap.size]? = some (.cells #[.string ⟨f.n.toArray⟩, f.u] 89 (0, 0)) := by rw [hW1]; exact heap_alloc_new _ _
  have hfl : (vs.filter fun x => decide (x.n ≠ f.n)).length ≤ 900000 := Nat.le_trans (List.length_filter_le _ _) hl
  obtain ⟨rs, hrs⟩ : ∃ rs, vs.filter (fun x => decide (x.n ≠ f.n)) = rs := ⟨_, rfl⟩
  rw [hrs] at HW HFIN hfl
  have HB1 := Lib.hid hb1
  have HBOX := Lib.hid hbox
  have HRR := Lib.hid hR
  have HF := Lib.hid hf
  obtain ⟨a, cap, rfl, _, _⟩ := h.at
  obtain ⟨B0, hB0⟩ : ∃ B0, w.heap.size = B0 := ⟨_, rfl⟩
  rw [hB0] at HBOX
  have HB0 := Lib.hid hB0
  obtain ⟨L, hL⟩ : ∃ L, vs.length = L := ⟨_, rfl⟩
  rw [hL] at HW ⊢
  clear h hf hR hl hok hb1 hbox hrs hL
  obtain ⟨fn, fb, fa, fc⟩ := f
  obtain ⟨f, hfe⟩ : ∃ f : FV, f = ⟨fn, fb, fa, fc⟩ := ⟨_, rfl⟩
  rw [← hfe] at HFIN HF
  dsimp only [FV.u] at hW1 HW HBOX ⊢
  have hfn : f.n = fn := by rw [hfe]
  have hfb : f.b = fb := by rw [hfe]
  rw [hfn, hfb] at HFIN
  have HFE := Lib.hid hfe
  clear hfb
  go_enter Try.func75, Try.ntmps75
  go_wp2_with fail
  rw [← hW1]
  clear hW1
  refine HW.out.mono ?_
  rintro e w2 ⟨ra, rc, rfl, hfi, hb2⟩
  have HREST := Lib.hid hfi.at
  have HFI := Lib.hid hfi.2
  have HB2 := Lib.hid (HB1.out.trans (hb2.mono HB1.out.size))
  have HBX2 : Hid (w2.heap[B0]? = some (.cells #[.string ⟨fn.toArray⟩, .slice fa fb.length fc] 89 (0, 0))) := (hb2.block _ (lt_of_block HBOX.out)).trans HBOX.out
  have HBXW : Hid (∀ W, Below w2.heap.size w2 W → W.cell? ⟨B0, 0, none⟩ = some (.string ⟨fn.toArray⟩) ∧ W.cell? ⟨B0, 1, none⟩ = some (.slice fa fb.length fc)) := fun W hb => by
    have hx := (hb.block _ (lt_of_block HBX2.out)).trans HBX2.out
    exact ⟨by rw [Go.Joins.cell_of_block hx]; rfl, by rw [Go.Joins.cell_of_block hx]; rfl⟩
  obtain ⟨FL, hFL⟩ : ∃ FL, fb.length = FL := ⟨_, rfl⟩
  obtain ⟨N, hN⟩ : ∃ N, rs.length = N := ⟨_, rfl⟩
  have HN := Lib.hid hN
  rw [hN] at hfl HREST ⊢
  rw [hFL] at HBXW
  have HFL := Lib.hid hFL
  clear hfi hb2 HBOX HBX2 hFL hN HW hB0
  go_wp2_with fail
  go_loopw [5, 6, 8] (fun o p i wr => ∃ (k : Nat) (b : Bool), k ≤ N ∧ i = .int .i64 (k : Nat) ∧ p = .bool b ∧ Hid (Wing w2 rs f wr o b k)) (fun _ _ i _ => N - (intOf i).toNat)
  case atStart => exact ⟨0, false, Nat.zero_le _, rfl, rfl, [], OwnRow.nil _ _, Below.refl _ _, by simp⟩
  case round =>
    obtain ⟨k, b, hk, rfl, rfl, HI⟩ := hrel
    obtain ⟨O, ho, hbo, hO⟩ := HI.out
    have hOl : O.length ≤ N + 1 := by
      have := congrArg List.length hO
      rw [ins_length, List.length_append, HN.out] at this
      omega
    obtain ⟨oa, oc, rfl⟩ := ho.form
    have HP : Hid (Put1 w2 wr (.slice oa O.length oc) O) := ⟨ho, hbo⟩
    have HOE := Lib.hid hO
    clear ho hbo hO HI
    by_cases hlt : k < N
    · obtain ⟨a', cap', e1, _, hcc⟩ := HREST.out
      cases e1
      obtain ⟨rb, roff, rfl, hrb, _, hcell⟩ := hcc (by omega)
      obtain ⟨x, hx⟩ : ∃ x, rs[k]? = some x := ⟨_, List.getElem?_eq_getElem (by rw [HN.out]; exact hlt)⟩
      obtain ⟨e0, e1⟩ := hcell k x hx
      have hdrop : rs.drop k = x :: rs.drop (k + 1) := by
        obtain ⟨h1, h2⟩ := List.getElem?_eq_some_iff.1 hx
        rw [List.drop_eq_getElem_cons h1, h2]
      have HD := Lib.hid hdrop
      obtain ⟨xn, xb, xa, xc⟩ := x
      obtain ⟨x, hxe⟩ : ∃ x : FV, x = ⟨xn, xb, xa, xc⟩ := ⟨_, rfl⟩
      rw [← hxe] at HD
      dsimp only at e0 e1
      have HE : Hid (∀ W, Below w2.heap.size w2 W → (W.cell? ⟨rb, roff + k * 2, none⟩ = some (.string ⟨xn.toArray⟩) ∧ W.cell? ⟨rb, roff + k * 2 + 1, none⟩ = some (.slice xa xb.length xc)) ∧ W.cell? ⟨B0, 0, none⟩ = some (.string ⟨fn.toArray⟩) ∧ W.cell? ⟨B0, 1, none⟩ = some (.slice fa FL fc)) := fun W hb =>
        ⟨⟨by rw [hb.cell (show (⟨rb, roff + k * 2, none⟩ : Addr).block < _ from hrb)]; exact e0, by rw [hb.cell (show (⟨rb, roff + k * 2 + 1, none⟩ : Addr).block < _ from hrb)]; exact e1⟩, HBXW.out W hb⟩
      have HX1 : Hid (∀ W : World, RowIn (fun _ => True) 2 FV.enc (W.alloc (.cells #[.string ⟨xn.toArray⟩, .slice xa xb.length xc] 89)) (.slice (some ⟨W.heap.size, 0, none⟩) 1 1) [x]) := fun W => RowIn.one W x _ (by rw [hxe]; rfl)
      have HF1 : Hid (∀ W : World, RowIn (fun _ => True) 2 FV.enc (W.alloc (.cells #[.string ⟨fn.toArray⟩, .slice fa FL fc] 89)) (.slice (some ⟨W.heap.size, 0, none⟩) 1 1) [f]) := fun W => RowIn.one W f _ (by rw [HFE.out, ← HFL.out]; rfl)
      obtain ⟨XL, hXL⟩ : ∃ XL, xb.length = XL := ⟨_, rfl⟩
      rw [hXL] at HE HX1
      have hcm := fun m => HE.out (wr.drewN m) (HP.out.drewN m).2
      simp only [forall_and] at hcm
      obtain ⟨⟨cx0, cx1⟩, cf0, cf1⟩ := hcm
      have c0 := (HE.out wr HP.out.2).1.1
      have c1 := (HE.out wr HP.out.2).2.1
      have hxn : x.n = xn := by rw [hxe]
      clear hcc hcell e0 e1 hx hdrop hxe hXL
      cases b
      · by_cases hg : fn < xn
        · obtain ⟨g1, g2⟩ := gt_other hg
          have HNX : Hid (∀ w3 v3, Put1 w2 w3 v3 (O ++ [f] ++ [x]) → Wing w2 rs f w3 v3 true (k + 1)) := fun w3 v3 hp => ⟨O ++ [f] ++ [x], hp.1, hp.2, by
            have := HOE.out
            rw [if_neg (by simp), HD.out] at this
            rw [ins_lo (by rw [hxn, hfn]; exact hg)] at this
            rw [if_pos rfl, List.append_assoc, List.append_assoc]
            exact this⟩
          clear HD HOE hg
          go_wp2_with fail
          go_quiet (fail)
          go_wp2_with (first | (at_builtin; refine wpList_append_rows rfl _ _ 65 89 2 40 _ FV.enc rfl Try.underlying65 info89 rfl (by decide) (by decide) (fun _ => rfl) w2.heap.size _ _ O [f] _ rfl rfl ((HP.out.drewN _).alloc _).1 (HF1.out _) (FV.one f) (by simp; omega) ((HP.out.drewN _).alloc _).2 ?_; intro v3 w3 ho3 hg3; obtain ⟨v3a, v3c, rfl, hp3⟩ := Put1.more' (n := O.length) (by simp) (HP.out.drewN _) ho3 hg3; have HP3 := Lib.hid hp3; clear ho3 hg3 hp3; obtain ⟨d0, d1⟩ := (HE.out _ HP3.out.2).1) | (at_builtin; refine wpList_append_rows rfl _ _ 65 89 2 40 _ FV.enc rfl Try.underlying65 info89 rfl (by decide) (by decide) (fun _ => rfl) w2.heap.size _ _ (O ++ [f]) [x] _ rfl rfl (HP3.out.alloc _).1 (HX1.out _) (FV.one x) (by simp; omega) (HP3.out.alloc _).2 ?_; intro v4 w4 ho4 hg4; obtain ⟨v4a, v4c, rfl, hp4⟩ := Put1.more' (n := O.length + 1) (by simp) HP3.out ho4 hg4; have HP4 := Lib.hid hp4; clear ho4 hg4 hp4))
          go_roundw
          case rel => exact ⟨k + 1, true, by omega, by go_num, rfl, HNX.out _ _ HP4.out⟩
          case measure => simp [intOf]; omega
        · have g1 := gt_no hg
          have HNX : Hid (∀ w3 v3, Put1 w2 w3 v3 (O ++ [x]) → Wing w2 rs f w3 v3 false (k + 1)) := fun w3 v3 hp => ⟨O ++ [x], hp.1, hp.2, by
            have := HOE.out
            rw [if_neg (by simp), HD.out] at this
            rw [ins_hi (by rw [hxn, hfn]; exact hg)] at this
            rw [if_neg (by simp), List.append_assoc]
            exact this⟩
          clear HD HOE hg
          go_wp2_with fail
          go_quiet (fail)
          go_wp2_with (at_builtin; refine wpList_append_rows rfl _ _ 65 89 2 40 _ FV.enc rfl Try.underlying65 info89 rfl (by decide) (by decide) (fun _ => rfl) w2.heap.size _ _ O [x] _ rfl rfl ((HP.out.drewN _).alloc _).1 (HX1.out _) (FV.one x) (by simp; omega) ((HP.out.drewN _).alloc _).2 ?_; intro v3 w3 ho3 hg3; obtain ⟨v3a, v3c, rfl, hp3⟩ := Put1.more' (n := O.length) (by simp) (HP.out.drewN _) ho3 hg3; have HP3 := Lib.hid hp3; clear ho3 hg3 hp3)
          go_roundw
          case rel => exact ⟨k + 1, false, by omega, by go_num, rfl, HNX.out _ _ HP3.out⟩
          case measure => simp [intOf]; omega
      · have HNX : Hid (∀ w3 v3, Put1 w2 w3 v3 (O ++ [x]) → Wing w2 rs f w3 v3 true (k + 1)) := fun w3 v3 hp => ⟨O ++ [x], hp.1, hp.2, by
          have := HOE.out
          rw [if_pos rfl, HD.out] at this
          rw [if_pos rfl, List.append_assoc]
          exact this⟩
        clear HD HOE
        go_wp2_with fail
        go_quiet (fail)
        go_wp2_with (at_builtin; refine wpList_append_rows rfl _ _ 65 89 2 40 _ FV.enc rfl Try.underlying65 info89 rfl (by decide) (by decide) (fun _ => rfl) w2.heap.size _ _ O [x] _ rfl rfl ((HP.out.drewN _).alloc _).1 (HX1.out _) (FV.one x) (by simp; omega) ((HP.out.drewN _).alloc _).2 ?_; intro v3 w3 ho3 hg3; obtain ⟨v3a, v3c, rfl, hp3⟩ := Put1.more' (n := O.length) (by simp) (HP.out.drewN _) ho3 hg3; have HP3 := Lib.hid hp3; clear ho3 hg3 hp3)
        go_roundw
        case rel => exact ⟨k + 1, true, by omega, by go_num, rfl, HNX.out _ _ HP3.out⟩
        case measure => simp [intOf]; omega
    · obtain rfl : k = N := by omega
      have hdr : rs.drop k = [] := List.drop_eq_nil_of_le (by rw [HN.out]; exact Nat.le_refl _)
      have HEND : Hid (∀ w3 a3 c3, Put1 w2 w3 (.slice a3 (ins f rs).length c3) (ins f rs) → GivesFs R w ((fsOf vs).put fn fb) (.returned (.slice a3 (ins f rs).length c3)) w3) := fun w3 a3 c3 hp =>
        ⟨ins f rs, a3, c3, rfl, hp.1.files (fun j hj => HRR.out j (by have := HB2.out.size; omega)) fun x hx => by
          rcases ins_mem hx with rfl | hx
          · exact (HF.out.below HB2.out (Nat.le_refl _)).below hp.2 (Nat.le_refl _)
          · exact (HFI.out x hx).below hp.2 (Nat.le_refl _), HFIN.out, HB2.out.trans (hp.2.mono HB2.out.size)⟩
      obtain ⟨c0, c1⟩ := HBXW.out wr HP.out.2
      have HF1 : Hid (∀ W : World, RowIn (fun _ => True) 2 FV.enc (W.alloc (.cells #[.string ⟨fn.toArray⟩, .slice fa FL fc] 89)) (.slice (some ⟨W.heap.size, 0, none⟩) 1 1) [f]) := fun W => RowIn.one W f _ (by rw [HFE.out, ← HFL.out]; rfl)
      have hOE := HOE.out
      rw [hdr] at hOE
      cases b
      · rw [if_neg (by simp)] at hOE
        have hOE2 : O ++ [f] = ins f rs := hOE
        have HO2 := Lib.hid hOE2
        clear hOE hOE2 HOE hdr
        go_wp2_with (at_builtin; refine wpList_append_rows rfl _ _ 65 89 2 40 _ FV.enc rfl Try.underlying65 info89 rfl (by decide) (by decide) (fun _ => rfl) w2.heap.size _ _ O [f] _ rfl rfl (HP.out.alloc _).1 (HF1.out _) (FV.one f) (by simp; omega) (HP.out.alloc _).2 ?_; intro v3 w3 ho3 hg3; obtain ⟨v3a, v3c, rfl, hp3⟩ := Put1.more' (n := O.length) (by simp) HP.out ho3 hg3; have HP3 := Lib.hid hp3; clear ho3 hg3 hp3)
        go_ret
        have h3 := HP3.out
        have hlen : O.length + 1 = (ins f rs).length := by rw [← HO2.out]; simp
        rw [HO2.out, hlen] at h3
        have := HEND.out _ _ _ h3
        rw [← hlen] at this
        exact this
      · rw [if_pos rfl, List.append_nil] at hOE
        have HO2 := Lib.hid hOE
        clear hOE HOE hdr
        go_wp2
        go_ret
        have h3 := HP.out
        have hlen : O.length = (ins f rs).length := by rw [HO2.out]
        rw [hlen] at h3
        rw [HO2.out] at h3
        have := HEND.out _ _ _ h3
        rw [← hlen] at this
        exact this
end Go.Proofs.Yticbfnflillokaa
