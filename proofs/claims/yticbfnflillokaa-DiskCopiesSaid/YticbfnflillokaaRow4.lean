/- The document's without, with. -/
import Derived.Test.YticbfnflillokaaRow3
import Derived.Laws.Cover1
namespace Go.Proofs.Yticbfnflillokaa
open Go.RowKit
/-- what a call hands back: files, the blocks that they are in -/
def GivesFs (R : Bks) (w : World) (F : Fs) (e : Ending) (w' : World) : Prop := ∃ vs a c, e = .returned (.slice a vs.length c) ∧ FilesIn R w' (.slice a vs.length c) vs ∧ fsOf vs = F ∧ Below w.heap.size w w'
theorem OwnRow.files {R : Bks} {w' : World} {base : Nat} {v : Value} {l : List FV} (h : OwnRow 89 2 FV.enc base w' v l) (hR : ∀ k, base ≤ k → R k) (hb : ∀ x ∈ l, BytesIn R w' x.u x.b) : FilesIn R w' v l :=
  ⟨(OwnRow.rowIn (enc := FV.enc) (fun _ => rfl) h).wide fun k _ hk => hR k (h.lt k hk).1, hb⟩
theorem fs_filter (vs : List FV) (n : Bs) : fsOf (vs.filter fun x => decide (x.n ≠ n)) = (fsOf vs).del n := by
  unfold Fs.del
  induction vs with
  | nil => rfl
  | cons x vs ih =>
    by_cases h : x.n = n
    · rw [List.filter_cons_of_neg (by simp [h])]
      simp only [fsOf, List.map_cons]
      rw [List.filter_cons_of_neg (by simp [FV.kv, h])]
      exact ih
    · rw [List.filter_cons_of_pos (by simp [h])]
      simp only [fsOf, List.map_cons]
      rw [List.filter_cons_of_pos (by simp [FV.kv, h])]
      simp only [fsOf] at ih
      rw [ih]
theorem take_filter (vs : List FV) (p : FV → Bool) (k : Nat) (x : FV) (h : vs[k]? = some x) : (vs.take (k + 1)).filter p = (vs.take k).filter p ++ (if p x = true then [x] else []) := by
  rw [List.take_add_one, h, List.filter_append]
  congr 1
  by_cases hp : p x = true
  · simp [hp]
  · simp [hp]
set_option maxRecDepth 100000 in
set_option maxHeartbeats 1000000 in
theorem without_raw {R : Bks} (v : Value) (vs : List FV) (n : Bs) (w : World) (h : FilesIn R w v vs) (hR : ∀ k, w.heap.size ≤ k → R k) (hl : vs.length ≤ 900000) :
    Calls Try.prog 76 #[v, .string ⟨n.toArray⟩] w fun e w' => ∃ a c, e = .returned (.slice a (vs.filter fun x => decide (x.n ≠ n)).length c) ∧ FilesIn R w' (.slice a (vs.filter fun x => decide (x.n ≠ n)).length c) (vs.filter fun x => decide (x.n ≠ n)) ∧ Below w.heap.size w w' := by
  have H := Lib.hid h
  have HRR := Lib.hid hR
  obtain ⟨a, cap, rfl, _, hc⟩ := h.at
  have HC := Lib.hid hc
  obtain ⟨L, hL⟩ : ∃ L, vs.length = L := ⟨_, rfl⟩
  rw [hL] at hl ⊢ HC H
  have HL := Lib.hid hL
  clear h hc hL hR
  go_enter Try.func76, Try.ntmps76
  go_wp2
  go_loopw [5, 6] (fun o i wr => ∃ k : Nat, k ≤ L ∧ i = .int .i64 (k : Nat) ∧ Hid (OwnRow 89 2 FV.enc w.heap.size wr o ((vs.take k).filter fun x => decide (x.n ≠ n)) ∧ Below w.heap.size w wr)) (fun _ i _ => L - (intOf i).toNat)
  case atStart => exact ⟨0, Nat.zero_le _, rfl, OwnRow.nil _ _, Below.refl _ _⟩
  case round =>
    obtain ⟨k, hk, rfl, HI⟩ := hrel
    obtain ⟨oa, oc, rfl⟩ := HI.out.1.form
    by_cases hlt : k < L
    · obtain ⟨b, off, rfl, hb, _, hcell⟩ := HC.out (by omega)
      obtain ⟨x, hx⟩ : ∃ x, vs[k]? = some x := ⟨_, List.getElem?_eq_getElem (by rw [HL.out]; exact hlt)⟩
      obtain ⟨e0, e1⟩ := hcell k x hx
      rw [← HI.out.2.cell (show (⟨b, off + k * 2, none⟩ : Addr).block < _ from hb)] at e0
      rw [← HI.out.2.cell (show (⟨b, off + k * 2 + 1, none⟩ : Addr).block < _ from hb)] at e1
      have HTF := Lib.hid (take_filter vs (fun x => decide (x.n ≠ n)) k x hx)
      clear hx hcell
      obtain ⟨F, hF⟩ : ∃ F, (vs.take k).filter (fun x => decide (x.n ≠ n)) = F := ⟨_, rfl⟩
      have hFl : F.length ≤ L := by rw [← hF]; exact Nat.le_trans (List.length_filter_le _ _) (by rw [List.length_take]; omega)
      rw [hF] at HI HTF ⊢
      obtain ⟨xn, xb, xa, xc⟩ := x
      dsimp only at e0 e1 HTF
      by_cases hn : xn = n
      · have hq : (xn == n) = true := by simpa using hn
        have HS : Hid ((vs.take (k + 1)).filter (fun x => decide (x.n ≠ n)) = F) := by
          show _ = F
          rw [HTF.out, if_neg (by simp [hn]), List.append_nil]
        clear HTF hF
        go_wp2
        go_roundw
        case rel => exact ⟨k + 1, by omega, by go_num, by rw [HS.out]; exact HI.out⟩
        case measure => simp [intOf]; omega
      · have hq : (xn == n) = false := by simpa using hn
        obtain ⟨x, hx⟩ : ∃ x : FV, x = ⟨xn, xb, xa, xc⟩ := ⟨_, rfl⟩
        have HS : Hid ((vs.take (k + 1)).filter (fun x => decide (x.n ≠ n)) = F ++ [x]) := by
          show _ = F ++ [x]
          rw [HTF.out, if_pos (by simp [hn]), hx]
        have HOA : Hid (∀ o, OwnRow 89 2 FV.enc w.heap.size (wr.alloc o) (.slice oa F.length oc) F ∧ w.heap.size ≤ (wr.alloc o).heap.size) := fun o => ⟨World.ownsRow.alloc HI.out.1 o, by rw [World.size_alloc]; have := HI.out.2.size; omega⟩
        have HBA : Hid (∀ o, Below w.heap.size w (wr.alloc o)) := fun o => HI.out.2.alloc HI.out.2.size o
        have HLT : Hid (∀ g, (Value.slice oa F.length oc).ownBlock = some g → w.heap.size ≤ g) := fun g hg => (HI.out.1.lt g hg).1
        have HONE : Hid (RowIn (fun _ => True) 2 FV.enc (wr.alloc (.cells #[.string ⟨xn.toArray⟩, .slice xa xb.length xc] 89)) (.slice (some ⟨wr.heap.size, 0, none⟩) 1 1) [x]) := RowIn.one wr x _ (by rw [hx]; rfl)
        clear HTF hF hx
        go_wp2_with (at_builtin; refine wpList_append_rows rfl _ _ 65 89 2 40 _ FV.enc rfl Try.underlying65 info89 rfl (by decide) (by decide) (fun _ => rfl) w.heap.size _ _ F [x] _ rfl rfl (HOA.out _).1 HONE.out (FV.one x) (by simp; omega) (HOA.out _).2 ?_; intro v2 w2 ho2 hg2; have HO2 := Lib.hid ho2; have B2 := Lib.hid ((HBA.out _).grown hg2 (HOA.out _).2 HLT.out); clear ho2 hg2)
        go_roundw
        case rel => exact ⟨k + 1, by omega, by go_num, by rw [HS.out]; exact ⟨HO2.out, B2.out⟩⟩
        case measure => simp [intOf]; omega
    · obtain rfl : k = L := by omega
      have HT : Hid (vs.take k = vs) := List.take_of_length_le (by rw [HL.out]; exact Nat.le_refl _)
      rw [HT.out] at HI ⊢
      go_wp2
      go_ret
      refine ⟨_, _, rfl, HI.out.1.files HRR.out fun x hx => ?_, HI.out.2⟩
      have := H.out.2 x (List.mem_filter.1 hx).1
      exact this.below HI.out.2 (Nat.le_refl _)
end Go.Proofs.Yticbfnflillokaa
