/- Append, Put. -/
import Derived.Test.YticbfnflillokaaOps1
namespace Go.Proofs.Yticbfnflillokaa
open Go.RowKit Go.Maps Go.WideMaps
/-- what a method that answers a number leaves -/
def Does (w : World) (O I : Nat → Prop) (p N : Nat) (r : Int) (d : Dk) (e : Ending) (w' : World) : Prop :=
  e = .returned (.int .i64 r) ∧ ∃ O' I', DiskAt w' O' I' p N d ∧ Step w O I w' O' I'
theorem Does.still {w w' : World} {O I : Nat → Prop} {p N : Nat} {d : Dk} (h : DiskAt w O I p N d) (r : Int) (hb : Below w.heap.size w w') : Does w O I p (N + 1) r d (.returned (.int .i64 r)) w' :=
  ⟨rfl, O, I, (h.below hb (Nat.le_refl _)).mono (Nat.le_succ N), Step.of_below hb⟩
def Dk.add (d : Dk) (c : Ch) : Dk := { d with seen := c.do d.seen, waits := d.waits ++ [c] }
theorem Dk.ok.add {d : Dk} (h : d.ok) (c : Ch) (ht : (c.do d.seen).total ≤ d.cap) : (d.add c).ok where
  rises := h.rises
  sees := by
    show c.do d.seen = doAll (d.waits ++ [c]) d.synced
    rw [doAll_snoc, h.sees]
  fits := fun i hi => by
    show (doAll ((d.waits ++ [c]).take i) d.synced).total ≤ d.cap
    have hl : (d.add c).waits.length = d.waits.length + 1 := by simp [Dk.add]
    by_cases hi2 : i ≤ d.waits.length
    · rw [List.take_append_of_le_length hi2]; exact h.fits i hi2
    · rw [List.take_of_length_le (by simp; omega), doAll_snoc, ← h.sees]; exact ht
  cap := h.cap
def Dk.append (d : Dk) (k l : Bs) : Int × Dk := if refuse d [k] ≠ 0 then (refuse d [k], d) else if d.cap < d.seen.total + l.length then (3, d) else (0, d.add (.app k l))
def Dk.putF (d : Dk) (k l : Bs) : Int × Dk := if refuse d [k] ≠ 0 then (refuse d [k], d) else if d.cap + d.seen.size k < d.seen.total + l.length then (3, d) else (0, d.add (.put k l))
def Dk.rename (d : Dk) (k m : Bs) : Int × Dk := if lack d k [m] ≠ 0 then (lack d k [m], d) else if k = m then (0, d) else (0, d.add (.ren k m))
def Dk.remove (d : Dk) (k : Bs) : Int × Dk := if lack d k [] ≠ 0 then (lack d k [], d) else (0, d.add (.rem k))
/-- a change is laid, and waits -/
theorem await_disk {w w3 : World} {O I : Nat → Prop} {p N : Nat} {d : Dk} (h : DiskAt w O I p N d) (hN : N ≤ 400000) (hb : Below w.heap.size w w3) (J : Nat → Prop) (hJ : ∀ k, J k → w.heap.size ≤ k ∧ k < w3.heap.size) {c : Ch} {vd vt : Value} (hc : ChAt w3 (fun k => I k ∨ J k) c (vd, vt)) (ht : (c.do d.seen).total ≤ d.cap) :
    Calls Try.prog 42 #[.pointer (some ⟨p, 0, none⟩), .agg #[vd, vt]] w3 fun e w' => e = .returned (.tuple #[]) ∧ ∃ O' I', DiskAt w' O' I' p (N + 1) (d.add c) ∧ Step w O I w' O' I' := by
  obtain ⟨n1, n2, hr, hok, hn1, hn2, hser⟩ := h
  have hr3 : DiskRaw w3 O (fun k => I k ∨ J k) p n1 n2 d := (hr.below hb (Nat.le_refl _)).wide (fun _ h => .inl h) (fun k hO hk => by
    rcases hk with hk | hk
    · exact hr.di k hO hk
    · have := hr.lt k (.inl hO); have := (hJ k hk).1; omega) (fun k hk => by
    rcases hk with hk | hk
    · have := hr.lt k (.inr hk); have := hb.size; omega
    · exact (hJ k hk).2)
  have := hok.cap
  have := hok.total
  refine (await_any w3 O _ p n1 n2 d hr3 c vd vt hc (by omega) (by omega) (by omega)).mono ?_
  rintro e w' ⟨rfl, O', hd, hO', hch⟩
  have hsz := hb.size
  refine ⟨rfl, O', _, ⟨n1, n2 + 1, hd, hok.add c ht, ?_, ?_, ?_⟩, Chg.behind hb hch, fun k hk => ?_, fun k hk => ?_⟩
  · show n1 + (d.waits ++ [c]).length ≤ N + 1
    rw [List.length_append, List.length_singleton]; omega
  · omega
  · show d.serial ≤ N + 1 + 1; omega
  · rcases hO' k hk with h | h
    · exact .inl h
    · exact .inr (by omega)
  · rcases hk with h | h
    · exact .inl h
    · exact .inr (hJ k h).1
theorem names_one {w : World} {k : Bs} (hk : k.length ≤ maxLen) (b : Nat) (hb : w.heap[b]? = some (.cells #[.string ⟨k.toArray⟩] 9 (0, 0))) : NamesAt w b [k] := by
  refine ⟨lt_of_block hb, fun j n hj => ?_⟩
  have : j = 0 ∧ n = k := by
    cases j with
    | zero => exact ⟨rfl, by simpa using hj.symm⟩
    | succ j => simp at hj
  obtain ⟨rfl, rfl⟩ := this
  exact ⟨by rw [Go.Joins.cell_of_block hb]; rfl, hk⟩
/-- the world behind a name's box and the slice of names -/
def W2 (w : World) (k : Bs) : World := (w.alloc (.cells #[.string ⟨k.toArray⟩] 9)).alloc (.cells #[.string ⟨k.toArray⟩] 9)
theorem W2.size (w : World) (k : Bs) : (W2 w k).heap.size = w.heap.size + 2 := by unfold W2; rw [World.size_alloc, World.size_alloc]
theorem W2.box (w : World) (k : Bs) : (W2 w k).heap[w.heap.size]? = some (.cells #[.string ⟨k.toArray⟩] 9 (0, 0)) := by
  unfold W2
  rw [heap_alloc_old (h := by rw [World.size_alloc]; omega), heap_alloc_new]
/-- the closures of an Append or a Put are laid -/
theorem laid_disk {w w4 : World} {O I : Nat → Prop} {p N : Nat} {d : Dk} (h : DiskAt w O I p N d) (hN : N ≤ 400000) (k l : Bs) (hb4 : Below (W2 w k).heap.size (W2 w k) w4) (v : Value) (ho : OwnBytes (W2 w k).heap.size w4 v l) (app : Bool) (hk : isName k = true) (hl : l.length ≤ 100000) (ht : (Ch.do (if app then .app k l else .put k l) d.seen).total ≤ d.cap) :
    Calls Try.prog 42 #[.pointer (some ⟨p, 0, none⟩), .agg (if app then #[.func (.func 43) #[] #[.pointer (some ⟨w.heap.size, 0, none⟩), .pointer (some ⟨w4.heap.size, 0, none⟩)], .func (.func 45) #[] #[.pointer (some ⟨w4.heap.size, 0, none⟩), .pointer (some ⟨w.heap.size, 0, none⟩)]] else #[.func (.func 57) #[] #[.pointer (some ⟨w.heap.size, 0, none⟩), .pointer (some ⟨w4.heap.size, 0, none⟩)], .nilFunc])]
      (((w4.alloc (.cells #[.slice none 0 0] 31)).setCell ⟨w.heap.size, 0, none⟩ (.string ⟨k.toArray⟩)).setCell ⟨w4.heap.size, 0, none⟩ v) fun e w' => e = .returned (.tuple #[]) ∧ ∃ O' I', DiskAt w' O' I' p (N + 1) (d.add (if app then .app k l else .put k l)) ∧ Step w O I w' O' I' := by
  have hsz := W2.size w k
  have hs4 := hb4.size
  have hBw : Below w.heap.size w (W2 w k) := Go.Joins.below_alloc2 w _ _
  have hbox : w4.heap[w.heap.size]? = some (.cells #[.string ⟨k.toArray⟩] 9 (0, 0)) := by rw [hb4.block _ (by omega), W2.box]
  have hs5 : (((w4.alloc (.cells #[.slice none 0 0] 31)).setCell ⟨w.heap.size, 0, none⟩ (.string ⟨k.toArray⟩)).setCell ⟨w4.heap.size, 0, none⟩ v).heap.size = w4.heap.size + 1 := by
    show (World.setCell _ _ _).heap.size = _
    simp only [World.size_setCell, World.size_alloc]
  have hC5 : Chg (fun i => i = w.heap.size) w4 (((w4.alloc (.cells #[.slice none 0 0] 31)).setCell ⟨w.heap.size, 0, none⟩ (.string ⟨k.toArray⟩)).setCell ⟨w4.heap.size, 0, none⟩ v) := (((Chg.refl (fun i => i = w.heap.size) w4).alloc _).setCell (p := ⟨w.heap.size, 0, none⟩) (.inl rfl) _).setCell (p := ⟨w4.heap.size, 0, none⟩) (.inr (Nat.le_refl _)) _
  have hB5 : Below w.heap.size w (((w4.alloc (.cells #[.slice none 0 0] 31)).setCell ⟨w.heap.size, 0, none⟩ (.string ⟨k.toArray⟩)).setCell ⟨w4.heap.size, 0, none⟩ v) := (hBw.trans (hb4.mono (by omega))).trans (hC5.below (B := w.heap.size) (by omega) fun i hi => by omega)
  have ca : (((w4.alloc (.cells #[.slice none 0 0] 31)).setCell ⟨w.heap.size, 0, none⟩ (.string ⟨k.toArray⟩)).setCell ⟨w4.heap.size, 0, none⟩ v).cell? ⟨w.heap.size, 0, none⟩ = some (.string ⟨k.toArray⟩) := by
    have h5 : (w4.alloc (.cells #[.slice none 0 0] 31)).heap[w.heap.size]? = some (.cells #[.string ⟨k.toArray⟩] 9 (0, 0)) := by rw [heap_alloc_old (h := by omega)]; exact hbox
    have h6 := Go.Joins.block_setCell (i := 0) h5 (.string ⟨k.toArray⟩)
    have h7 := (Chg.one ((w4.alloc (.cells #[.slice none 0 0] 31)).setCell ⟨w.heap.size, 0, none⟩ (.string ⟨k.toArray⟩)) ⟨w4.heap.size, 0, none⟩ v).heap h6 (fun e => by have e : w.heap.size = w4.heap.size := e; omega)
    rw [Go.Joins.cell_of_block h7]; rfl
  have cb : (((w4.alloc (.cells #[.slice none 0 0] 31)).setCell ⟨w.heap.size, 0, none⟩ (.string ⟨k.toArray⟩)).setCell ⟨w4.heap.size, 0, none⟩ v).cell? ⟨w4.heap.size, 0, none⟩ = some v := by
    have h5 : (w4.alloc (.cells #[.slice none 0 0] 31)).heap[w4.heap.size]? = some (.cells #[.slice none 0 0] 31 (0, 0)) := heap_alloc_new _ _
    have h6 := (Chg.one (w4.alloc (.cells #[.slice none 0 0] 31)) ⟨w.heap.size, 0, none⟩ (.string ⟨k.toArray⟩)).heap h5 (fun e => by have e : w4.heap.size = w.heap.size := e; omega)
    rw [Go.Joins.cell_of_block (Go.Joins.block_setCell (i := 0) h6 v)]; rfl
  have hvo : ∀ i, v.ownBlock = some i → w.heap.size + 2 ≤ i ∧ i < w4.heap.size := fun i hi => by have := ho.lt i hi; omega
  have hv5 : BytesIn (fun i => v.ownBlock = some i) (((w4.alloc (.cells #[.slice none 0 0] 31)).setCell ⟨w.heap.size, 0, none⟩ (.string ⟨k.toArray⟩)).setCell ⟨w4.heap.size, 0, none⟩ v) v l := ho.bytesIn.chg hC5 fun i hi hv => by have := hvo i hv; omega
  cases app
  · exact await_disk h hN hB5 (fun i => (i = w.heap.size ∨ i = w4.heap.size) ∨ v.ownBlock = some i) (fun i hi => by
      rcases hi with (hi | hi) | hi
      · omega
      · omega
      · have := hvo i hi; omega) (put_at ca cb hv5 hk hl (.inr (.inl (.inl rfl))) (.inr (.inl (.inr rfl))) fun i hi => .inr (.inr hi)) ht
  · exact await_disk h hN hB5 (fun i => (i = w.heap.size ∨ i = w4.heap.size) ∨ v.ownBlock = some i) (fun i hi => by
      rcases hi with (hi | hi) | hi
      · omega
      · omega
      · have := hvo i hi; omega) (app_at ca cb hv5 hk hl (.inr (.inl (.inl rfl))) (.inr (.inl (.inr rfl))) fun i hi => .inr (.inr hi)) ht
set_option maxRecDepth 100000 in
set_option maxHeartbeats 1000000 in
theorem append_any {w : World} {O I : Nat → Prop} {p N : Nat} {d : Dk} (h : DiskAt w O I p N d) (hN : N ≤ 400000) (k l : Bs) (u : Value) (hu : BytesAt w u l) (hk : k.length ≤ maxLen) :
    Calls Try.prog 14 #[.pointer (some ⟨p, 0, none⟩), .string ⟨k.toArray⟩, u] w (Does w O I p (N + 1) (d.append k l).1 (d.append k l).2) := by
  have HH := Lib.hid h
  have HU := Lib.hid hu
  have hul := hu.length_le
  obtain ⟨n1, n2, hr⟩ := h.raw
  have HB2 : Hid (Below w.heap.size w ((w.alloc (.cells #[.string ⟨k.toArray⟩] 9)).alloc (.cells #[.string ⟨k.toArray⟩] 9))) := Go.Joins.below_alloc2 w _ _
  have HR := Lib.hid (refuses_disk (hr.below HB2.out (Nat.le_refl _)) (w.heap.size + 1) [k] (names_one hk _ (heap_alloc2_new w _ _)) (by simp))
  have HSTILL : Hid (∀ r w', Below w.heap.size w w' → Does w O I p (N + 1) r d (.returned (.int .i64 r)) w') := fun r w' hb => Does.still h r hb
  obtain ⟨R, hR⟩ : ∃ R, R = refuse d [k] := ⟨_, rfl⟩
  have hcs := refuse_cases d [k]
  rw [← hR] at HR hcs
  obtain ⟨ua, uc, rfl, _⟩ := hu.form
  rcases hcs with h0 | h0 | h0
  · have h00 : refuse d [k] = 0 := hR.symm.trans h0
    have hnm : isName k = true := (refuse_ok h00).2 k List.mem_cons_self
    rw [h0] at HR
    have hcap := h.ok.cap
    have htot := h.ok.total
    have HROOM : Hid (∀ W, Below w.heap.size w W → Calls Try.prog 39 #[.pointer (some ⟨p, 0, none⟩)] W fun e w' => e = .returned (.int .i64 ((d.cap : Int) - (d.seen.total : Nat))) ∧ Below W.heap.size W w') := fun W hb => by
      have hrW := hr.below hb (Nat.le_refl _)
      exact room_any p (d.cap : Nat) (d.seen.total : Nat) W hrW.c2 hrW.c6 (by omega) (by omega)
    by_cases hfull : d.cap < d.seen.total + l.length
    · have hres : d.append k l = (3, d) := by unfold Dk.append; rw [h00, if_neg (by simp), if_pos hfull]
      rw [hres]
      clear h hu hr hR h0 h00 hres hnm
      go_enter Try.func14, Try.ntmps14
      go_wp2_with (first | (go_at_call 38; refine HR.out.mono ?_; rintro e w1 ⟨rfl, hb⟩; have HB := Lib.hid (HB2.out.trans (hb.mono HB2.out.size)); clear hb) | (go_at_call 39; refine (HROOM.out _ HB.out).mono ?_; rintro e w2 ⟨rfl, hb⟩; have HC := Lib.hid (HB.out.trans (hb.mono HB.out.size)); clear hb))
      all_goals (first | omega | (go_ret; exact HSTILL.out _ _ HC.out))
    · have hres : d.append k l = (0, d.add (.app k l)) := by unfold Dk.append; rw [h00, if_neg (by simp), if_neg hfull]
      rw [hres]
      have hadd : (Ch.do (.app k l) d.seen).total ≤ d.cap := by
        have ht := Fs.total_put (h.ok.sees ▸ doAll_ok d.waits h.ok.rises : d.seen.ok) k (((d.seen.get k).getD []) ++ l)
        rw [List.length_append] at ht
        unfold Fs.size at ht
        show (d.seen.put k (((d.seen.get k).getD []) ++ l)).total ≤ d.cap
        omega
      have hl1 : l.length ≤ 100000 := by omega
      have HCL : Hid (∀ W, Below (W2 w k).heap.size (W2 w k) W → Calls Try.prog 41 #[.slice ua l.length uc] W (Gives W l)) := fun W hb => clone_any _ l W ((HU.out.below HB2.out (Nat.le_refl _)).below hb (Nat.le_refl _)) (by omega)
      have HSC : Hid (∀ W, Calls Try.prog 40 #[.string ⟨k.toArray⟩] W fun e w' => e = .returned (.string ⟨k.toArray⟩) ∧ Below W.heap.size W w') := fun W => strClone_any k W (isName_le hnm)
      have HAW : Hid (∀ w4 v, Below (W2 w k).heap.size (W2 w k) w4 → OwnBytes (W2 w k).heap.size w4 v l → Calls Try.prog 42 #[.pointer (some ⟨p, 0, none⟩), .agg #[.func (.func 43) #[] #[.pointer (some ⟨w.heap.size, 0, none⟩), .pointer (some ⟨w4.heap.size, 0, none⟩)], .func (.func 45) #[] #[.pointer (some ⟨w4.heap.size, 0, none⟩), .pointer (some ⟨w.heap.size, 0, none⟩)]]]
          (((w4.alloc (.cells #[.slice none 0 0] 31)).setCell ⟨w.heap.size, 0, none⟩ (.string ⟨k.toArray⟩)).setCell ⟨w4.heap.size, 0, none⟩ v) fun e w' => e = .returned (.tuple #[]) ∧ ∃ O' I', DiskAt w' O' I' p (N + 1) (d.add (.app k l)) ∧ Step w O I w' O' I') := fun w4 v hb ho => laid_disk h hN k l hb v ho true hnm hl1 hadd
      have HBOX : Hid (∀ W, Below (W2 w k).heap.size (W2 w k) W → W.cell? ⟨w.heap.size, 0, none⟩ = some (.string ⟨k.toArray⟩) ∧ W.frozen? ⟨w.heap.size, 0, none⟩ = false) := fun W hb => by
        have hbx : W.heap[w.heap.size]? = some (.cells #[.string ⟨k.toArray⟩] 9 (0, 0)) := by rw [hb.block _ (by rw [W2.size]; omega), W2.box]
        exact ⟨by rw [Go.Joins.cell_of_block hbx]; rfl, by simp [World.frozen?, hbx]⟩
      have HROOM2 : Hid (∀ W, Below (W2 w k).heap.size (W2 w k) W → Calls Try.prog 39 #[.pointer (some ⟨p, 0, none⟩)] W fun e w' => e = .returned (.int .i64 ((d.cap : Int) - (d.seen.total : Nat))) ∧ Below W.heap.size W w') := fun W hb => HROOM.out W (HB2.out.trans (hb.mono HB2.out.size))
      clear h hu hr hR h0 h00 hres hnm HROOM hadd
      go_enter Try.func14, Try.ntmps14
      go_wp2_with fail
      refine HR.out.mono ?_
      rintro e w1 ⟨rfl, hb1⟩
      have HB1 : Hid (Below (W2 w k).heap.size (W2 w k) w1) := hb1
      clear hb1
      go_wp2_with fail
      refine (HROOM2.out _ HB1.out).mono ?_
      rintro e w2 ⟨rfl, hb2⟩
      have HB3 : Hid (Below (W2 w k).heap.size (W2 w k) w2) := HB1.out.trans (hb2.mono HB1.out.size)
      clear hb2
      have c2 := (HBOX.out w2 HB3.out).1
      go_wp2_with fail
      refine (HSC.out w2).mono ?_
      rintro e w3 ⟨rfl, hb3⟩
      have HB4 : Hid (Below (W2 w k).heap.size (W2 w k) w3) := HB3.out.trans (hb3.mono HB3.out.size)
      clear hb3
      go_wp2_with fail
      refine (HCL.out w3 HB4.out).mono ?_
      rintro e w4 ⟨v, rfl, ho4, hb4⟩
      have HB5 : Hid (Below (W2 w k).heap.size (W2 w k) w4) := HB4.out.trans (hb4.mono HB4.out.size)
      have HX := Lib.hid (HAW.out w4 v HB5.out (ho4.base_le HB4.out.size))
      have c4 := (HBOX.out w4 HB5.out).1
      have f4 := (HBOX.out w4 HB5.out).2
      have c4a : ∀ o, (w4.alloc o).cell? ⟨w.heap.size, 0, none⟩ = some (.string ⟨k.toArray⟩) := fun o => (HBOX.out _ (HB5.out.alloc HB5.out.size o)).1
      have f4a : ∀ o, (w4.alloc o).frozen? ⟨w.heap.size, 0, none⟩ = false := fun o => (HBOX.out _ (HB5.out.alloc HB5.out.size o)).2
      have h8 : ((w4.alloc (.cells #[.slice none 0 0] 31)).setCell ⟨w.heap.size, 0, none⟩ (.string ⟨k.toArray⟩)).heap[w4.heap.size]? = some (.cells #[.slice none 0 0] 31 (0, 0)) :=
        (Chg.one (w4.alloc (.cells #[.slice none 0 0] 31)) ⟨w.heap.size, 0, none⟩ (.string ⟨k.toArray⟩)).heap (heap_alloc_new w4 _) (fun e => by have e : w4.heap.size = w.heap.size := e; have := HB5.out.size; rw [W2.size] at this; omega)
      have c8 : ((w4.alloc (.cells #[.slice none 0 0] 31)).setCell ⟨w.heap.size, 0, none⟩ (.string ⟨k.toArray⟩)).cell? ⟨w4.heap.size, 0, none⟩ = some (.slice none 0 0) := by rw [Go.Joins.cell_of_block h8]; rfl
      have f8 : ((w4.alloc (.cells #[.slice none 0 0] 31)).setCell ⟨w.heap.size, 0, none⟩ (.string ⟨k.toArray⟩)).frozen? ⟨w4.heap.size, 0, none⟩ = false := by simp only [World.frozen?, h8]; rfl
      obtain ⟨va, vc, rfl⟩ := ho4.form
      clear ho4 hb4 h8
      go_wp2_with fail
      refine HX.out.mono ?_
      rintro e w5 ⟨rfl, hfin⟩
      have HY := Lib.hid hfin
      clear hfin
      go_wp2
      go_ret
      exact ⟨rfl, HY.out⟩
  · have hres : d.append k l = (1, d) := by unfold Dk.append; rw [← hR, h0, if_pos (by simp)]
    rw [hres]
    rw [h0] at HR
    clear h hu hr hR h0 hres hul
    go_enter Try.func14, Try.ntmps14
    go_wp2_with (go_at_call 38; refine HR.out.mono ?_; rintro e w1 ⟨rfl, hb⟩; have HB := Lib.hid (HB2.out.trans (hb.mono HB2.out.size)); clear hb)
    go_ret
    exact HSTILL.out _ _ HB.out
  · have hres : d.append k l = (6, d) := by unfold Dk.append; rw [← hR, h0, if_pos (by simp)]
    rw [hres]
    rw [h0] at HR
    clear h hu hr hR h0 hres hul
    go_enter Try.func14, Try.ntmps14
    go_wp2_with (go_at_call 38; refine HR.out.mono ?_; rintro e w1 ⟨rfl, hb⟩; have HB := Lib.hid (HB2.out.trans (hb.mono HB2.out.size)); clear hb)
    go_ret
    exact HSTILL.out _ _ HB.out
end Go.Proofs.Yticbfnflillokaa
