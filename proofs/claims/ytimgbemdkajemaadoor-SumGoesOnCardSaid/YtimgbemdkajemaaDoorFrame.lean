/- What the five rows share: the two tables as they are laid; how a slice of bytes that came in is read. -/
import Derived.Test.YtimgbemdkajemaaDoorCards
import Derived.Test.YtimgbemdkajemaaDoorTie
import Derived.Test.YtimgbemdkajemaaDoorAwake
import Derived.ProofKit
import Derived.OpenShut
import Derived.Deep.DeepHandedRow
import Derived.Deep.Matrix
import Derived.Lib.LaidTab
import Derived.Stop.LaidErr
namespace Go.Proofs.YtimgbemdkajemaaDoor
open Go.ChangeShapes Go.WideShapes Go.ChangeAt Go.RowKit Go.Deep Crc

theorem own : ownKnob Tryd.prog.godebug = none := by kernel_rfl
theorem gHalves : Tryd.prog.globalNamed "scrivener/sum.halves" = some 0 := by kernel_rfl
theorem gPlaces : Tryd.prog.globalNamed "scrivener/sum.places" = some 1 := by kernel_rfl
theorem gHalvesType : (Tryd.prog.globals[0]?).map (·.type) = some 37 := by kernel_rfl
theorem gPlacesType : (Tryd.prog.globals[1]?).map (·.type) = some 40 := by kernel_rfl
theorem cells37 : Tryd.prog.cellsOf 37 = 16 := by kernel_rfl
theorem cells40 : Tryd.prog.cellsOf 40 = 4 := by kernel_rfl
theorem cells25 : Tryd.prog.cellsOf 25 = 1 := by kernel_rfl
theorem cells23 : Tryd.prog.cellsOf 23 = 1 := by kernel_rfl
theorem cells5 : Tryd.prog.cellsOf 5 = 1 := by kernel_rfl
theorem cells3 : Tryd.prog.cellsOf 3 = 1 := by kernel_rfl
theorem bytes5 : Tryd.prog.bytesOf 5 = 1 := by kernel_rfl
theorem laidOut : laidOutB Tryd.prog = true := by kernel_rfl
abbrev laid2 : List (String × DataW Unit) := [("scrivener/sum.halves", Rows.laid_scrivener_sum_halves), ("scrivener/sum.places", Rows.laid_scrivener_sum_places)]
/-- what the rows' list gives -/
theorem tabs_of {W : World} (h : laidMetH Tryd.prog laid2 W) : Tabs W := by
  rw [MakeChecks.laidMetH_plain _ _ _ (by kernel_rfl)] at h
  have h0 : Lib.TabIs Tryd.prog W "scrivener/sum.halves" .u32 [0, 274646895, 549293790, 820201905, 1098587580, 1361435347, 1640403810, 1905808397, 2197175160, 2460548119, 2722870694, 2987750089, 3280807620, 3553878443, 3811616794, 4084100981] :=
    Lib.tabIs_of_head (rest := [("scrivener/sum.places", Rows.laid_scrivener_sum_places)]) gHalves gHalvesType Tryd.underlying37 Tryd.underlying25 cells25 cells37 h
  have h1 : Lib.TabIs Tryd.prog W "scrivener/sum.places" .i64 [0, 8, 16, 24] :=
    Lib.tabIs_of_head (rest := []) gPlaces gPlacesType Tryd.underlying40 Tryd.underlying3 cells3 cells40 (laidMet.tail h)
  obtain ⟨t, fr, hp⟩ : ∃ t fr, W.heap[1]? = some (.cells #[.int .i64 0, .int .i64 8, .int .i64 16, .int .i64 24] t fr) := by
    unfold Lib.TabIs World.var? at h1
    rw [gPlaces] at h1
    simp only [Option.bind_some] at h1
    cases hw : W.heap[1]? with
    | none => rw [hw] at h1; cases h1
    | some o =>
      rw [hw] at h1
      cases o with
      | cells cs t fr =>
        simp only [Option.some.injEq] at h1
        subst h1
        exact ⟨t, fr, rfl⟩
      | _ => cases h1
  refine ⟨by have := (Array.getElem?_eq_some_iff.1 hp).1; omega, fun i hi => ?_, t, fr, hp⟩
  rw [h0.cell gHalves i hi]
  congr 2
  revert i
  decide
def byteOf (z : Int) : UInt8 := UInt8.ofNat z.toNat
theorem byteOf_int {z : Int} (h : (Lit.int .u8 z).wf = true) : ((byteOf z).toNat : Int) = z := by
  have hb := bounds_u8 h
  unfold byteOf
  rw [UInt8.toNat_ofNat']
  omega
theorem bytesAt_ints {w : World} {a : Addr} {len cap : Nat} {zs : List Int} (hl : len ≤ cap) (hm : cap ≤ maxLen) (hz : zs.length = cap)
    (hc : ∀ i, i < cap → w.cell? (a.add i) = some (.int .u8 (zs.getD i 0))) (hw : ∀ n ∈ zs, (Lit.int .u8 n).wf = true) : BytesAt w (.slice (some a) len cap) ((zs.take len).map byteOf) := by
  have hlen : ((zs.take len).map byteOf).length = len := by simp; omega
  refine .inr ⟨a, cap, by rw [hlen], by rw [hlen]; exact ⟨Nat.le_trans hl hm, hl⟩, fun h => ?_⟩
  rw [hlen] at h ⊢
  obtain ⟨b, off, sp⟩ := a
  have h0 := hc 0 (by omega)
  have hs : sp = none := by simpa [Addr.add] using World.cell?_spot h0
  subst hs
  have hb : b < w.heap.size := by
    rcases Nat.lt_or_ge b w.heap.size with h' | h'
    · exact h'
    · simp [World.cell?, Addr.add, Array.getElem?_eq_none h'] at h0
  refine ⟨b, off, rfl, hb, fun j hj => ?_⟩
  have hj' := hc j (by omega)
  rw [Addr.add_lit] at hj'
  rw [hj']
  have hjz : j < zs.length := by omega
  have e : ((zs.take len).map byteOf).getD j 0 = byteOf (zs.getD j 0) := by
    rw [List.getD_eq_getElem?_getD, List.getElem?_map, List.getElem?_take_of_lt hj, List.getElem?_eq_getElem hjz, List.getD_eq_getElem?_getD, List.getElem?_eq_getElem hjz]; rfl
  rw [e, byteOf_int (hw _ (by rw [List.getD_eq_getElem?_getD, List.getElem?_eq_getElem hjz]; exact List.getElem_mem hjz))]
theorem weightsAll_mem {H : Type} {P : Program} {e : TypeId} : ∀ {l : List (DataW H)} {d : DataW H}, d ∈ l → ∀ n ∈ d.weights P e, n ∈ DataW.weightsAll P e l
  | d' :: r, d, hd, n, hn => by
    simp only [DataW.weightsAll, List.mem_append]
    rcases List.mem_cons.1 hd with rfl | h
    · exact Or.inl hn
    · exact Or.inr (weightsAll_mem h n hn)
/-- how far a part that came in reaches -/
theorem part_reach {H : Type} {ts : List TypeId} {ds : List (DataW H)} (h : (DataW.weightsEach Tryd.prog ts ds).all (· ≤ reachBytes) = true) {j : Nat} {elems spare e' sp' : List (DataW H)}
    (ht : ts[j]? = some 22) (hd : ds[j]? = some (.slice elems spare)) (hx : DataW.slice e' sp' ∈ elems) : e'.length + sp'.length ≤ 140737488351232 := by
  have := of_decide_eq_true (List.all_eq_true.1 h _ (DataW.weights_mem_each ht hd ((e'.length + sp'.length) * Tryd.prog.bytesOf 5) (by
    simp only [DataW.weights, Tryd.underlying22, List.mem_cons, List.mem_append]
    exact Or.inr (Or.inl (weightsAll_mem hx _ (by simp [DataW.weights, Tryd.underlying23]))))))
  rw [bytes5, Nat.mul_one] at this
  exact this
def putHalves : Obj → Obj
  | .cells _ t frozen => .cells #[.int .u32 0, .int .u32 274646895, .int .u32 549293790, .int .u32 820201905, .int .u32 1098587580, .int .u32 1361435347, .int .u32 1640403810, .int .u32 1905808397, .int .u32 2197175160, .int .u32 2460548119, .int .u32 2722870694, .int .u32 2987750089, .int .u32 3280807620, .int .u32 3553878443, .int .u32 3811616794, .int .u32 4084100981] t frozen
  | o => o
def putPlaces : Obj → Obj
  | .cells _ t frozen => .cells #[.int .i64 0, .int .i64 8, .int .i64 16, .int .i64 24] t frozen
  | o => o
/-- a world for the witnesses: the settled one, the two tables (blocks 0 and 1) holding what their initialisers lay -/
noncomputable def laidWorld (os : Os) : World :=
  { World.holding Tryd.prog os ⟨#[], #[], []⟩ with heap := ((World.holding Tryd.prog os ⟨#[], #[], []⟩).heap.modify 0 putHalves).modify 1 putPlaces }
end Go.Proofs.YtimgbemdkajemaaDoor
