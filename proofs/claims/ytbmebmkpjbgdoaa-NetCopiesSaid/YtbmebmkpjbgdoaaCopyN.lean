/- Copy of a net. -/
import Derived.Test.YtbmebmkpjbgdoaaCopy
namespace Go.Proofs.Ytbmebmkpjbgdoaa
open Go.RowKit
theorem fold_net (v x : Value) (cs : List Value) (hc : cs.length = 225) : List.foldl (fun (cs : Array Value) (x : Value × Nat) => cs.setIfInBounds (2 + x.snd) x.fst) ((zNet.setIfInBounds 0 v).setIfInBounds 1 x) cs.zipIdx = (v :: x :: (cs ++ [.pointer none])).toArray := by
  have e3 : ((zNet.setIfInBounds 0 v).setIfInBounds 1 x) = ((Value.slice none 0 0 :: .int .i64 0 :: (falses ++ [.pointer none])).set 0 v |>.set 1 x).toArray := by
    unfold zNet
    rw [List.setIfInBounds_toArray, List.setIfInBounds_toArray]
  rw [foldl_over, e3]
  exact over_mid v x cs hc
set_option maxRecDepth 100000 in
set_option maxHeartbeats 2000000 in
theorem copy_any {w : World} {O I : Nat → Prop} {p : Nat} {d : Nt} (h : NetAt w O I p d) :
    Calls Try.prog 12 #[.pointer (some ⟨p, 0, none⟩)] w fun e w' => ∃ q, e = .returned (.pointer (some ⟨q, 0, none⟩)) ∧ Copied w I d w' q := by
  obtain ⟨ho, sv, vs, h⟩ := h
  have HM := Lib.hid (h.made ho)
  have hlen := ho.len
  have HCL : Hid (Calls Try.prog 28 #[.pointer (some ⟨p, 0, none⟩)] w.drew fun e w' => ∃ v, e = .returned (.agg #[v]) ∧ OwnMs w' v vs ∧ (∀ k, v.ownBlock = some k → w.heap.size ≤ k) ∧ Below w.heap.size w w') := by
    refine (clone_at (h.chg (Chg.refl (fun _ => False) w).drew fun _ h => h.elim) (by rw [h.len]; omega)).mono ?_
    rintro e w' ⟨v, rfl, h1, h2, h3⟩
    exact ⟨v, rfl, h1, h2, ⟨h3.os, h3.tape, h3.output, h3.size, h3.block⟩⟩
  have HS : Hid (∀ W, Below w.heap.size w W → W.cell? ⟨p, 1, none⟩ = some (.int .i64 (d.n : Nat)) ∧ W.rangeAt p 2 (d.cuts.map Value.bool)) := fun W hb => ⟨(h.below hb).c1, (h.below hb).range⟩
  have HB0 : Hid (Below w.heap.size w w.drew) := (Below.refl _ _).drew
  have HFIN : Hid (∀ w4 v4, OwnMs w4 v4 vs → (∀ k, v4.ownBlock = some k → w.heap.size ≤ k) → Below w.heap.size w w4 → Copied w I d (w4.alloc (.cells (netCells v4 d w4.heap.size) 46)) w4.heap.size) := fun w4 v4 h1 h2 h3 => copied h ho h1 h2 h3
  have hself := fun v q => selfed v d q ho.cuts
  obtain ⟨cs, hcs⟩ : ∃ cs, d.cuts.map Value.bool = cs := ⟨_, rfl⟩
  have hcl : cs.length = 225 := by rw [← hcs, List.length_map, ho.cuts]
  have hfold := fun v => fold_net v (.int .i64 (d.n : Nat)) cs hcl
  have hz := zero46
  have hzs := zNet_size
  have hne : ¬ zNet = #[] := fun e => by rw [e] at hzs; cases hzs
  have hlast : ∀ v : Value, ((v :: Value.int .i64 (d.n : Nat) :: (cs ++ [.pointer none])).toArray)[227]? = some (.pointer none) := fun v => by
    rw [List.getElem?_toArray, show 227 = 225 + 1 + 1 by rfl, List.getElem?_cons_succ, List.getElem?_cons_succ, List.getElem?_append_right (by rw [hcl]; exact Nat.le_refl _), hcl]; rfl
  rw [hcs] at HS hself
  have hu44 := Try.underlying44
  have hi44 : (Try.prog.info? 44).map (·.size) = some cs.length := by rw [hcl]; kernel_rfl
  have hone : ∀ v ∈ cs, v.oneCell' = true := fun v hv => by
    rw [← hcs] at hv
    obtain ⟨b, _, rfl⟩ := List.mem_map.1 hv
    rfl
  have hY : ∃ Y : Value → Array Value, ∀ v, (v :: Value.int .i64 (d.n : Nat) :: (cs ++ [.pointer none])).toArray = Y v := ⟨_, fun _ => rfl⟩
  obtain ⟨Y, hY⟩ := hY
  have hYs : ∀ v, (Y v).size = 228 := fun v => by rw [← hY, List.size_toArray, List.length_cons, List.length_cons, List.length_append, hcl]; rfl
  simp only [hY] at hfold hself hlast
  generalize zNet = Z at hfold hz hzs hne
  have HSELF := Lib.hid hself
  clear h ho hlen hcs hY hself
  go_enter Try.func12, Try.ntmps12
  go_wp2_with (go_at_call 27; refine HM.out.mono ?_; rintro e w1 ⟨rfl, rfl⟩)
  go_region_held (fun W => W.cell? ⟨p, 1, none⟩ = some (.int .i64 (d.n : Nat)) ∧ W.rangeAt p 2 cs) ((refine HS.out _ ?_; first | exact HB0.out | exact HB4.out | exact HB4.out.alloc HB4.out.size _))
    (first | (go_at_call 28; refine HCL.out.mono ?_; rintro e w4 ⟨v4, rfl, ho4, hg4, hb4⟩; have HB4 := Lib.hid hb4; have HF4 := Lib.hid (HFIN.out w4 v4 ho4 hg4 hb4); obtain ⟨a4, z4, rfl⟩ := ho4.form; clear ho4 hg4 hb4))
  have HX := HF4.out
  rw [← HSELF.out] at HX
  have HX := Lib.hid HX
  clear hfold hz hzs hne hu44 hi44 hone HS
  go_wp2
  go_ret
  exact ⟨_, rfl, HX.out⟩
end Go.Proofs.Ytbmebmkpjbgdoaa
