/- The document's Done. -/
import Derived.Test.YticbfnflillokaaRow5
import Derived.Deep.RegionHeldLaw
namespace Go.Proofs.Yticbfnflillokaa
open Go.RowKit
/-- append of bytes to bytes of the call's own, as a step of a region that draws -/
theorem step_append_bytes {ops : Array Oper} {o : Oper} {a : Act} {w : World} {K : Act → World → Prop} {Q : Exit → Act → World → Prop} {E : Prop} (hgd : o.guard = none) (s x : Operand)
    (ho : o.op = .call { callee := .builtin .append, args := #[s, x], argTypes := #[31, 31] }) (base : Nat) (v u : Value) (n l : List UInt8) (N : Nat) (hN : N = n.length + l.length) (hs : a.eval s = v) (hx : a.eval x = u)
    (hown : OwnBytes base w v n) (hb : BytesAt w u l) (hsmall : N ≤ 175921860444160) (hbase : base ≤ w.heap.size)
    (h : ∀ a' c' w', OwnBytes base w' (.slice a' N c') (n ++ l) → w.grownBy w' v.ownBlock → K (a.put o.dst (.slice a' N c')) w') :
    if Region.wanted o (yielded ops a.tmps) = true then Oper.wp Try.prog o a w K Q else E := by
  have hw : Region.wanted o (yielded ops a.tmps) = true := by simp [Region.wanted, hgd]
  rw [if_pos hw]
  obtain ⟨i0, hi, hz0, hz1, hz2⟩ := info_parts info5
  have hK : ∀ v' w', OwnBytes base w' v' (n ++ l) → w.grownBy w' v.ownBlock → K (a.put o.dst v') w' := fun v' w' h1 h2 => by
    obtain ⟨a', c', e⟩ := h1.form
    rw [e] at h1 ⊢
    rw [List.length_append, ← hN] at h1 ⊢
    exact h a' c' w' h1 h2
  rcases hb with ⟨rfl, rfl⟩ | ⟨ad, cap, rfl, hl, hc⟩
  · have hrun := run_append_owned_none (P := Try.prog) (w := w) base 31 o.type 5 i0 1 Try.underlying31 hi v n.length (n.map byteV) hown
    have hk := hK v w (by rw [List.append_nil]; exact hown) (World.grownBy.refl _ _)
    unfold Oper.wp execOp
    simp only [ho, resolve, invoke, builtin, Sem.run_bind, Sem.run_pure, Result.andThen_ok, List.map_toArray, List.map_cons, List.map_nil, hs, hx, hrun]
    exact hk
  · obtain ⟨v', w', hr, h2, h3, h4⟩ := run_append_place w o.type base v n l hown ad cap (.inr ⟨ad, cap, rfl, hl, hc⟩) (by omega) hbase
    unfold Oper.wp execOp
    simp only [ho, resolve, invoke, builtin, Sem.run_bind, Sem.run_pure, Result.andThen_ok, List.map_toArray, List.map_cons, List.map_nil, hs, hx, hr]
    exact hK v' w' h2 h3
/-- the document's turn of a name -/
theorem ren_same {F : Fs} (hF : F.ok) {n m : Bs} (h : n ≠ m) (b : Bs) : (F.del n).put m b = (F.put m b).del n := by
  refine Fs.ext (Fs.ok_put (Fs.ok_del hF n) m b) (Fs.ok_del (Fs.ok_put hF m b) n) fun k => ?_
  rw [Fs.get_put, Fs.get_del, Fs.get_del, Fs.get_put]
  by_cases h1 : k = m
  · subst h1; rw [if_pos rfl, if_pos rfl, if_neg (Ne.symm h)]
  · rw [if_neg h1, if_neg h1]
def CBox (w : World) (o : Int) (n t : Bs) (a : Option Addr) (L c : Nat) : World := w.alloc (.cells #[.int .i64 o, .string ⟨n.toArray⟩, .string ⟨t.toArray⟩, .slice a L c] 84)
theorem CBox.cells {w W : World} {o : Int} {n t : Bs} {a : Option Addr} {L c : Nat} (hb : Below (CBox w o n t a L c).heap.size (CBox w o n t a L c) W) :
    W.cell? ⟨w.heap.size, 0, none⟩ = some (.int .i64 o) ∧ W.cell? ⟨w.heap.size, 1, none⟩ = some (.string ⟨n.toArray⟩) ∧ W.cell? ⟨w.heap.size, 2, none⟩ = some (.string ⟨t.toArray⟩) ∧ W.cell? ⟨w.heap.size, 3, none⟩ = some (.slice a L c) := by
  have h0 : (CBox w o n t a L c).heap[w.heap.size]? = some (.cells #[.int .i64 o, .string ⟨n.toArray⟩, .string ⟨t.toArray⟩, .slice a L c] 84 (0, 0)) := heap_alloc_new _ _
  have h := (hb.block _ (lt_of_block h0)).trans h0
  refine ⟨?_, ?_, ?_, ?_⟩ <;> (rw [Go.Joins.cell_of_block h]; rfl)
theorem FilesIn.belowB {R : Bks} {w w' : World} {B : Nat} {v : Value} {l : List FV} (h : FilesIn R w v l) (hb : Below B w w') (hB : w.heap.size ≤ B) : FilesIn R w' v l := h.below (hb.mono hB)
set_option maxRecDepth 100000 in
set_option maxHeartbeats 4000000 in
theorem done_app {R : Bks} (v : Value) (vs : List FV) (n t b : Bs) (ca : Option Addr) (cc : Nat) (w : World) (h : FilesIn R w v vs) (hc : BytesIn R w (.slice ca b.length cc) b) (hR : ∀ k, w.heap.size ≤ k → R k) (hl : vs.length ≤ 900000) (hok : (fsOf vs).ok) (ht : (fsOf vs).total ≤ 1000000) (hcl : b.length ≤ 1000000) :
    Calls Try.prog 69 #[v, .agg #[.int .i64 0, .string ⟨n.toArray⟩, .string ⟨t.toArray⟩, .slice ca b.length cc]] w (GivesFs R w ((fsOf vs).put n (((fsOf vs).get n).getD [] ++ b))) := by
  obtain ⟨CL, hCL⟩ : ∃ CL, b.length = CL := ⟨_, rfl⟩
  rw [hCL] at hc hcl ⊢
  have hOL : (((fsOf vs).get n).getD []).length ≤ 1000000 := Nat.le_trans (Fs.size_le hok n) ht
  obtain ⟨old, hold⟩ : ∃ old, ((fsOf vs).get n).getD [] = old := ⟨_, rfl⟩
  obtain ⟨OL, hOLe⟩ : ∃ OL, old.length = OL := ⟨_, rfl⟩
  rw [hold] at hOL ⊢
  rw [hOLe] at hOL
  obtain ⟨W1, hW1⟩ : ∃ W1, W1 = CBox w 0 n t ca CL cc := ⟨_, rfl⟩
  have hbW : Below w.heap.size w W1 := by rw [hW1]; exact Go.Joins.below_alloc1 w _
  have HS : Hid (∀ W, Below W1.heap.size W1 W → W.cell? ⟨w.heap.size, 1, none⟩ = some (.string ⟨n.toArray⟩) ∧ W.cell? ⟨w.heap.size, 3, none⟩ = some (.slice ca CL cc)) := fun W hb => by rw [hW1] at hb; have := CBox.cells hb; exact ⟨this.2.1, this.2.2.2⟩
  have h0 : W1.cell? ⟨w.heap.size, 0, none⟩ = some (.int .i64 0) := by have := CBox.cells (w := w) (o := 0) (n := n) (t := t) (a := ca) (L := CL) (c := cc) (Below.refl _ _); rw [← hW1] at this; exact this.1
  have HV : Hid (∀ W, Below W1.heap.size W1 W → FilesIn R W v vs ∧ BytesIn R W (.slice ca CL cc) b) := fun W hb => ⟨(h.below hbW).below hb, (hc.below hbW (Nat.le_refl _)).below hb (Nat.le_refl _)⟩
  have HBY : Hid (∀ W, Below W1.heap.size W1 W → Calls Try.prog 70 #[v, .string ⟨n.toArray⟩] W fun e w' => (∃ a c, e = .returned (.slice a OL c) ∧ BytesIn R W (.slice a OL c) old) ∧ W = w') := fun W hb => by
    have := rbytes_any v vs n W (HV.out W hb).1
    rw [hold, hOLe] at this
    exact this
  have HWITH : Hid (∀ W a c, Below W1.heap.size W1 W → BytesIn R W (.slice a (OL + CL) c) (old ++ b) → Calls Try.prog 75 #[v, .agg #[.string ⟨n.toArray⟩, .slice a (OL + CL) c]] W (GivesFs R W ((fsOf vs).put n (old ++ b)))) := fun W a c hb hby => by
    have hlen : OL + CL = (old ++ b).length := by rw [List.length_append, hOLe, hCL]
    rw [hlen] at hby ⊢
    exact with_any v vs ⟨n, old ++ b, a, c⟩ W (HV.out W hb).1 hby (fun k hk => hR k (Nat.le_trans hbW.size (Nat.le_trans hb.size hk))) hl hok
  have HR1 : Hid (∀ k, W1.heap.size ≤ k → R k) := fun k hk => hR k (Nat.le_trans hbW.size hk)
  have HB1 := Lib.hid hbW
  have HL := Lib.hid (And.intro hOLe hCL)
  have HD0 : Hid (Below W1.heap.size W1 W1.drew) := (Below.refl _ _).drew
  have HDA : Hid (∀ o, Below W1.heap.size W1 (W1.drew.alloc o)) := fun o => HD0.out.alloc (Nat.le_refl _) o
  have HMADE : Hid (OwnBytes W1.heap.size (W1.drew.alloc (.cells #[] 5)) (.slice (some ⟨W1.heap.size, 0, none⟩) 0 0) []) := OwnBytes.made W1.drew W1.heap.size (Nat.le_refl _)
  have HDW : Hid (∀ o, W1.heap.size ≤ (W1.drew.alloc o).heap.size) := fun o => (HDA.out o).size
  obtain ⟨z, c, rfl, _⟩ := h.at
  obtain ⟨NV, hNV⟩ : ∃ NV, vs.length = NV := ⟨_, rfl⟩
  rw [hNV] at HV HBY HWITH ⊢
  clear h hc hR hl hok ht hbW hold hOLe hCL hNV
  go_enter Try.func69, Try.ntmps69
  unfold CBox at hW1
  go_wp2
  rw [← hW1]
  clear hW1 h0
  have hs0 := HS.out W1 (Below.refl _ _)
  go_region_held_law (fun W => W.cell? ⟨w.heap.size, 1, none⟩ = some (.string ⟨n.toArray⟩) ∧ W.cell? ⟨w.heap.size, 3, none⟩ = some (.slice ca CL cc)) ((refine HS.out _ ?_; first | exact HD0.out | exact HDA.out _ | exact HB3.out | exact HB4.out | exact HB5.out)) (first
    | (go_at_call 70; refine (HBY.out _ HD0.out).mono ?_; rintro e w2 ⟨⟨oa, oc, rfl, ho⟩, rfl⟩; have HO : Hid (∀ o, BytesAt (W1.drew.alloc o) (.slice oa OL oc) old) := fun o => (ho.below (Go.Joins.below_alloc1 _ o) (Nat.le_refl _)).at; clear ho)
    | (go_at_call 70; refine (HBY.out _ (HDA.out _)).mono ?_; rintro e w2 ⟨⟨oa, oc, rfl, ho⟩, rfl⟩; have HO2 := Lib.hid ho.at; clear ho)
    | (refine step_append_bytes rfl (.tmp 12) (.tmp 16) rfl W1.heap.size _ _ [] old OL (by simp [HL.out.1]) (by simp [Act.eval]) (by simp [Act.eval]) HMADE.out (HO.out _) (by omega) (HDW.out _) ?_; intro a3 c3 w3 ho3 hg3; have HB3 := Lib.hid ((HDA.out _).grown hg3 (HDW.out _) fun k hk => Nat.le_of_eq (Option.some.inj hk)); have HO3 := Lib.hid ho3; clear ho3 hg3)
    | (refine step_append_bytes rfl (.tmp 12) (.tmp 16) rfl W1.heap.size _ _ [] old OL (by simp [HL.out.1]) (by simp [Act.eval]) (by simp [Act.eval]) HMADE.out HO2.out (by omega) (HDW.out _) ?_; intro a3 c3 w3 ho3 hg3; have HB3 := Lib.hid ((HDA.out _).grown hg3 (HDW.out _) fun k hk => Nat.le_of_eq (Option.some.inj hk)); have HO3 := Lib.hid ho3; clear ho3 hg3)
    | (refine step_append_bytes rfl (.tmp 17) (.tmp 19) rfl W1.heap.size _ _ old b (OL + CL) (by rw [HL.out.1, HL.out.2]) (by simp [Act.eval, Act.put]) (by simp [Act.eval, Act.put]) HO3.out (HV.out _ HB3.out).2.at (by omega) HB3.out.size ?_; intro a4 c4 w4 ho4 hg4; have HB4 := Lib.hid (HB3.out.grown hg4 HB3.out.size fun k hk => HO3.out.own k hk); have HO4 := Lib.hid (ho4.bytesIn.wide fun k _ hk => HR1.out k (ho4.own k hk)); clear ho4 hg4)
    | (go_at_call 75; refine (HWITH.out _ _ _ HB4.out HO4.out).mono ?_; rintro e w5 ⟨us, ua, uc, rfl, hu, hF, hb5⟩; have HB5 := Lib.hid (HB4.out.trans (hb5.mono HB4.out.size)); have HU := Lib.hid (And.intro hu hF); clear hu hF hb5))
  all_goals go_wp2
  all_goals go_ret
  all_goals exact ⟨us, ua, uc, rfl, HU.out.1, HU.out.2, HB1.out.trans (HB5.out.mono HB1.out.size)⟩
set_option maxRecDepth 100000 in
set_option maxHeartbeats 4000000 in
theorem done_put {R : Bks} (v : Value) (vs : List FV) (n t b : Bs) (ca : Option Addr) (cc : Nat) (w : World) (h : FilesIn R w v vs) (hc : BytesIn R w (.slice ca b.length cc) b) (hR : ∀ k, w.heap.size ≤ k → R k) (hl : vs.length ≤ 900000) (hok : (fsOf vs).ok) (hcl : b.length ≤ 1000000) :
    Calls Try.prog 69 #[v, .agg #[.int .i64 1, .string ⟨n.toArray⟩, .string ⟨t.toArray⟩, .slice ca b.length cc]] w (GivesFs R w ((fsOf vs).put n b)) := by
  obtain ⟨CL, hCL⟩ : ∃ CL, b.length = CL := ⟨_, rfl⟩
  rw [hCL] at hc hcl ⊢
  obtain ⟨W1, hW1⟩ : ∃ W1, W1 = CBox w 1 n t ca CL cc := ⟨_, rfl⟩
  have hbW : Below w.heap.size w W1 := by rw [hW1]; exact Go.Joins.below_alloc1 w _
  have HS : Hid (∀ W, Below W1.heap.size W1 W → W.cell? ⟨w.heap.size, 1, none⟩ = some (.string ⟨n.toArray⟩) ∧ W.cell? ⟨w.heap.size, 3, none⟩ = some (.slice ca CL cc)) := fun W hb => by rw [hW1] at hb; have := CBox.cells hb; exact ⟨this.2.1, this.2.2.2⟩
  have h0 : W1.cell? ⟨w.heap.size, 0, none⟩ = some (.int .i64 1) := by have := CBox.cells (w := w) (o := 1) (n := n) (t := t) (a := ca) (L := CL) (c := cc) (Below.refl _ _); rw [← hW1] at this; exact this.1
  have HV : Hid (∀ W, Below W1.heap.size W1 W → FilesIn R W v vs ∧ BytesIn R W (.slice ca CL cc) b) := fun W hb => ⟨(h.below hbW).below hb, (hc.below hbW (Nat.le_refl _)).below hb (Nat.le_refl _)⟩
  have HWITH : Hid (∀ W a c, Below W1.heap.size W1 W → BytesIn R W (.slice a CL c) b → Calls Try.prog 75 #[v, .agg #[.string ⟨n.toArray⟩, .slice a CL c]] W (GivesFs R W ((fsOf vs).put n b))) := fun W a c hb hby => by
    rw [← hCL] at hby ⊢
    exact with_any v vs ⟨n, b, a, c⟩ W (HV.out W hb).1 hby (fun k hk => hR k (Nat.le_trans hbW.size (Nat.le_trans hb.size hk))) hl hok
  have HR1 : Hid (∀ k, W1.heap.size ≤ k → R k) := fun k hk => hR k (Nat.le_trans hbW.size hk)
  have HB1 := Lib.hid hbW
  have HL := Lib.hid hCL
  have HD0 : Hid (Below W1.heap.size W1 W1.drew) := (Below.refl _ _).drew
  have HDA : Hid (∀ o, Below W1.heap.size W1 (W1.drew.alloc o)) := fun o => HD0.out.alloc (Nat.le_refl _) o
  have HMADE : Hid (OwnBytes W1.heap.size (W1.drew.alloc (.cells #[] 5)) (.slice (some ⟨W1.heap.size, 0, none⟩) 0 0) []) := OwnBytes.made W1.drew W1.heap.size (Nat.le_refl _)
  have HDW : Hid (∀ o, W1.heap.size ≤ (W1.drew.alloc o).heap.size) := fun o => (HDA.out o).size
  obtain ⟨z, c, rfl, _⟩ := h.at
  obtain ⟨NV, hNV⟩ : ∃ NV, vs.length = NV := ⟨_, rfl⟩
  rw [hNV] at HV HWITH ⊢
  clear h hc hR hl hok hbW hCL hNV
  go_enter Try.func69, Try.ntmps69
  unfold CBox at hW1
  go_wp2
  rw [← hW1]
  clear hW1 h0
  have hs0 := HS.out W1 (Below.refl _ _)
  go_region_held_law (fun W => W.cell? ⟨w.heap.size, 1, none⟩ = some (.string ⟨n.toArray⟩) ∧ W.cell? ⟨w.heap.size, 3, none⟩ = some (.slice ca CL cc)) ((refine HS.out _ ?_; first | exact HD0.out | exact HDA.out _ | exact HB4.out | exact HB5.out)) (first
    | (refine step_append_bytes rfl (.tmp 28) (.tmp 30) rfl W1.heap.size _ _ [] b CL (by simp [HL.out]) (by simp [Act.eval]) (by simp [Act.eval]) HMADE.out (HV.out _ (HDA.out _)).2.at (by omega) (HDW.out _) ?_; intro a4 c4 w4 ho4 hg4; have HB4 := Lib.hid ((HDA.out _).grown hg4 (HDW.out _) fun k hk => Nat.le_of_eq (Option.some.inj hk)); have HO4 := Lib.hid (ho4.bytesIn.wide fun k _ hk => HR1.out k (ho4.own k hk)); clear ho4 hg4)
    | (go_at_call 75; refine (HWITH.out _ _ _ HB4.out HO4.out).mono ?_; rintro e w5 ⟨us, ua, uc, rfl, hu, hF, hb5⟩; have HB5 := Lib.hid (HB4.out.trans (hb5.mono HB4.out.size)); have HU := Lib.hid (And.intro hu hF); clear hu hF hb5))
  all_goals go_wp2
  all_goals go_ret
  all_goals exact ⟨us, ua, uc, rfl, HU.out.1, HU.out.2, HB1.out.trans (HB5.out.mono HB1.out.size)⟩
set_option maxRecDepth 100000 in
set_option maxHeartbeats 4000000 in
theorem done_rem {R : Bks} (v : Value) (vs : List FV) (n t b : Bs) (ca : Option Addr) (cc : Nat) (w : World) (h : FilesIn R w v vs) (hR : ∀ k, w.heap.size ≤ k → R k) (hl : vs.length ≤ 900000) :
    Calls Try.prog 69 #[v, .agg #[.int .i64 3, .string ⟨n.toArray⟩, .string ⟨t.toArray⟩, .slice ca b.length cc]] w (GivesFs R w ((fsOf vs).del n)) := by
  obtain ⟨CL, hCL⟩ : ∃ CL, b.length = CL := ⟨_, rfl⟩
  rw [hCL]
  obtain ⟨W1, hW1⟩ : ∃ W1, W1 = CBox w 3 n t ca CL cc := ⟨_, rfl⟩
  have hbW : Below w.heap.size w W1 := by rw [hW1]; exact Go.Joins.below_alloc1 w _
  have h0 := CBox.cells (w := w) (o := 3) (n := n) (t := t) (a := ca) (L := CL) (c := cc) (Below.refl _ _)
  rw [← hW1] at h0
  obtain ⟨h0, h1, _⟩ := h0
  have HW := Lib.hid (without_raw v vs n W1 (h.below hbW) (fun k hk => hR k (Nat.le_trans hbW.size hk)) hl)
  have HB1 := Lib.hid hbW
  obtain ⟨rs, hrs⟩ : ∃ rs, vs.filter (fun x => decide (x.n ≠ n)) = rs := ⟨_, rfl⟩
  have HE : Hid (fsOf rs = (fsOf vs).del n) := by rw [← hrs]; exact fs_filter vs n
  rw [hrs] at HW
  obtain ⟨RL, hRL⟩ : ∃ RL, rs.length = RL := ⟨_, rfl⟩
  rw [hRL] at HW
  obtain ⟨z, c, rfl, _⟩ := h.at
  obtain ⟨NV, hNV⟩ : ∃ NV, vs.length = NV := ⟨_, rfl⟩
  rw [hNV] at HW ⊢
  have HRL := Lib.hid hRL
  clear h hR hl hbW hCL hNV hrs hRL
  go_enter Try.func69, Try.ntmps69
  unfold CBox at hW1
  go_wp2_with fail
  rw [← hW1]
  clear hW1 h0 h1
  refine HW.out.mono ?_
  rintro e w2 ⟨ua, uc, rfl, hu, hb2⟩
  have HU := Lib.hid (And.intro hu hb2)
  clear hu hb2
  go_wp2
  go_ret
  exact ⟨rs, ua, uc, by rw [HRL.out]; rfl, by rw [HRL.out]; exact HU.out.1, HE.out, HB1.out.trans (HU.out.2.mono HB1.out.size)⟩
set_option maxRecDepth 100000 in
set_option maxHeartbeats 4000000 in
theorem done_ren {R : Bks} (v : Value) (vs : List FV) (n t b : Bs) (ca : Option Addr) (cc : Nat) (w : World) (h : FilesIn R w v vs) (hR : ∀ k, w.heap.size ≤ k → R k) (hl : vs.length ≤ 900000) (hok : (fsOf vs).ok) (hne : n ≠ t) :
    Calls Try.prog 69 #[v, .agg #[.int .i64 2, .string ⟨n.toArray⟩, .string ⟨t.toArray⟩, .slice ca b.length cc]] w (GivesFs R w (((fsOf vs).put t (((fsOf vs).get n).getD [])).del n)) := by
  obtain ⟨CL, hCL⟩ : ∃ CL, b.length = CL := ⟨_, rfl⟩
  rw [hCL, ← ren_same hok hne]
  obtain ⟨old, hold⟩ : ∃ old, ((fsOf vs).get n).getD [] = old := ⟨_, rfl⟩
  obtain ⟨OL, hOLe⟩ : ∃ OL, old.length = OL := ⟨_, rfl⟩
  rw [hold]
  obtain ⟨W1, hW1⟩ : ∃ W1, W1 = CBox w 2 n t ca CL cc := ⟨_, rfl⟩
  have hbW : Below w.heap.size w W1 := by rw [hW1]; exact Go.Joins.below_alloc1 w _
  have HS : Hid (∀ W, Below W1.heap.size W1 W → W.cell? ⟨w.heap.size, 1, none⟩ = some (.string ⟨n.toArray⟩) ∧ W.cell? ⟨w.heap.size, 2, none⟩ = some (.string ⟨t.toArray⟩)) := fun W hb => by rw [hW1] at hb; have := CBox.cells hb; exact ⟨this.2.1, this.2.2.1⟩
  have h0 : W1.cell? ⟨w.heap.size, 0, none⟩ = some (.int .i64 2) := by have := CBox.cells (w := w) (o := 2) (n := n) (t := t) (a := ca) (L := CL) (c := cc) (Below.refl _ _); rw [← hW1] at this; exact this.1
  have HV : Hid (∀ W, Below W1.heap.size W1 W → FilesIn R W v vs) := fun W hb => (h.below hbW).below hb
  have HBY : Hid (∀ W, Below W1.heap.size W1 W → Calls Try.prog 70 #[v, .string ⟨n.toArray⟩] W fun e w' => (∃ a c, e = .returned (.slice a OL c) ∧ BytesIn R W (.slice a OL c) old) ∧ W = w') := fun W hb => by
    have := rbytes_any v vs n W (HV.out W hb)
    rw [hold, hOLe] at this
    exact this
  have HR1 : Hid (∀ k, W1.heap.size ≤ k → R k) := fun k hk => hR k (Nat.le_trans hbW.size hk)
  obtain ⟨rs, hrs⟩ : ∃ rs, vs.filter (fun x => decide (x.n ≠ n)) = rs := ⟨_, rfl⟩
  have hrf : fsOf rs = (fsOf vs).del n := by rw [← hrs]; exact fs_filter vs n
  have hrl : rs.length ≤ 900000 := by rw [← hrs]; exact Nat.le_trans (List.length_filter_le _ _) hl
  obtain ⟨RL, hRL⟩ : ∃ RL, rs.length = RL := ⟨_, rfl⟩
  have HWO : Hid (∀ W, Below W1.heap.size W1 W → Calls Try.prog 76 #[v, .string ⟨n.toArray⟩] W fun e w' => ∃ a c, e = .returned (.slice a RL c) ∧ FilesIn R w' (.slice a RL c) rs ∧ Below W.heap.size W w') := fun W hb => by
    have := without_raw v vs n W (HV.out W hb) (fun k hk => HR1.out k (Nat.le_trans hb.size hk)) hl
    rw [hrs, hRL] at this
    exact this
  have HWITH : Hid (∀ W a c a2 c2, Below W1.heap.size W1 W → FilesIn R W (.slice a RL c) rs → BytesIn R W (.slice a2 OL c2) old → Calls Try.prog 75 #[.slice a RL c, .agg #[.string ⟨t.toArray⟩, .slice a2 OL c2]] W (GivesFs R W (((fsOf vs).del n).put t old))) := fun W a c a2 c2 hb hf hby => by
    rw [← hOLe] at hby ⊢
    have := with_any (.slice a RL c) rs ⟨t, old, a2, c2⟩ W hf hby (fun k hk => HR1.out k (Nat.le_trans hb.size hk)) hrl (by rw [hrf]; exact Fs.ok_del hok n)
    rw [hrf] at this
    exact this
  have HB1 := Lib.hid hbW
  have HD0 : Hid (Below W1.heap.size W1 W1.drew) := (Below.refl _ _).drew
  obtain ⟨z, c, rfl, _⟩ := h.at
  obtain ⟨NV, hNV⟩ : ∃ NV, vs.length = NV := ⟨_, rfl⟩
  rw [hNV] at HV HBY HWO ⊢
  clear h hR hl hok hbW hold hOLe hCL hNV hrs hrf hrl hRL hne
  go_enter Try.func69, Try.ntmps69
  unfold CBox at hW1
  go_wp2
  rw [← hW1]
  clear hW1 h0
  have hs0 := HS.out W1 (Below.refl _ _)
  go_region_held_law (fun W => W.cell? ⟨w.heap.size, 1, none⟩ = some (.string ⟨n.toArray⟩) ∧ W.cell? ⟨w.heap.size, 2, none⟩ = some (.string ⟨t.toArray⟩)) ((refine HS.out _ ?_; first | exact HD0.out | exact HB2.out | exact HB5.out)) (first
    | (go_at_call 70; refine (HBY.out _ HD0.out).mono ?_; rintro e w7 ⟨⟨oa, oc, rfl, ho⟩, rfl⟩; have HO := Lib.hid ho; clear ho)
    | (go_at_call 76; refine (HWO.out _ HD0.out).mono ?_; rintro e w2 ⟨ra, rc, rfl, hr, hb2⟩; have HB2 := Lib.hid (HD0.out.trans (hb2.mono HD0.out.size)); have HRS := Lib.hid (And.intro hr hb2); clear hr hb2)
    | (go_at_call 70; refine (HBY.out _ HB2.out).mono ?_; rintro e w7 ⟨⟨oa, oc, rfl, ho⟩, rfl⟩; have HO2 := Lib.hid ho; clear ho)
    | (go_at_call 75; refine (HWITH.out _ _ _ _ _ HB2.out HRS.out.1 HO2.out).mono ?_; rintro e w5 ⟨us, ua, uc, rfl, hu, hF, hb5⟩; have HB5 := Lib.hid (HB2.out.trans (hb5.mono HB2.out.size)); have HU := Lib.hid (And.intro hu hF); clear hu hF hb5)
    | (go_at_call 75; refine (HWITH.out _ _ _ _ _ HB2.out HRS.out.1 (HO.out.below HRS.out.2 (Nat.le_refl _))).mono ?_; rintro e w5 ⟨us, ua, uc, rfl, hu, hF, hb5⟩; have HB5 := Lib.hid (HB2.out.trans (hb5.mono HB2.out.size)); have HU := Lib.hid (And.intro hu hF); clear hu hF hb5))
  all_goals go_wp2
  all_goals go_ret
  all_goals exact ⟨us, ua, uc, rfl, HU.out.1, HU.out.2, HB1.out.trans (HB5.out.mono HB1.out.size)⟩
/-- Done, whatever waits -/
theorem done_any {R : Bks} (v : Value) (vs : List FV) (c : CV) (w : World) (h : FilesIn R w v vs) (hc : BytesIn R w c.u c.b) (ho : c.ok) (hR : ∀ k, w.heap.size ≤ k → R k) (hl : vs.length ≤ 900000) (hok : (fsOf vs).ok) (ht : (fsOf vs).total ≤ 1000000) :
    Calls Try.prog 69 #[v, .agg c.enc.toArray] w (GivesFs R w (c.ch.do (fsOf vs))) := by
  obtain ⟨o, n, t, b, ca, cc⟩ := c
  obtain ⟨⟨o0, o3⟩, hne, hb⟩ := ho
  dsimp only at o0 o3 hne hb
  have hb' : b.length ≤ 1000000 := by omega
  rcases (by omega : o = 0 ∨ o = 1 ∨ o = 2 ∨ o = 3) with rfl | rfl | rfl | rfl
  · exact done_app v vs n t b ca cc w h hc hR hl hok ht hb'
  · exact done_put v vs n t b ca cc w h hc hR hl hok hb'
  · exact done_ren v vs n t b ca cc w h hR hl hok (hne rfl)
  · exact done_rem v vs n t b ca cc w h hR hl
end Go.Proofs.Yticbfnflillokaa
