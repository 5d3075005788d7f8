/- NetRow: its mathematics; a row of strings beside a net; what came in. -/
import Derived.Test.YtbmebmkpjbgdoaaTrueM
import Derived.Test.YtbmebmkpjbgdoaaAwake
import Derived.Sort.EncStr
import Derived.Deep.Matrix
namespace Go.Proofs.Ytbmebmkpjbgdoaa
open Go.RowKit Go.Sort
/-- the net when so many texts of S were delivered -/
def dRow (S : List Bs) (k : Nat) : Nt := ⟨2, (S.drop k).map fun b => ⟨1, 2, b⟩, List.replicate 225 false⟩
theorem dRow_open (S : List Bs) (k : Nat) : (dRow S k).isOpen 1 2 = true := by
  unfold Nt.isOpen dRow
  have h : (List.replicate 225 false).getD (place 1 2) false = false := by decide +kernel
  simp only [h]
  show (Nt.links _ 1 2 && true) = true
  rfl
theorem dRow_links (S : List Bs) (k : Nat) : (dRow S k).links 1 2 = true := by rfl
theorem dRow_len (S : List Bs) (k : Nat) : (dRow S k).bag.length = S.length - k := by simp [dRow]
theorem dRow_send {S : List Bs} {k : Nat} {b : Bs} (hk : k ≤ S.length) (hb : b.length ≤ 16384) (h : S.length - k < 64) : (dRow S k).send 1 2 b = (0, dRow (S ++ [b]) k) := by
  unfold Nt.send
  rw [if_neg (by rw [dRow_links]; simp), if_neg (by omega), if_neg (by rw [dRow_open]; simp), if_neg (by rw [dRow_len]; omega)]
  unfold dRow
  rw [List.drop_append_of_le_length hk, List.map_append]; rfl
theorem dRow_full {S : List Bs} {k : Nat} {b : Bs} (hb : b.length ≤ 16384) (h : ¬ S.length - k < 64) : (dRow S k).send 1 2 b = (3, dRow S k) := by
  unfold Nt.send
  rw [if_neg (by rw [dRow_links]; simp), if_neg (by omega), if_neg (by rw [dRow_open]; simp), if_pos (by rw [dRow_len]; omega)]
theorem dRow_deliver {S : List Bs} {k : Nat} (hk : k < S.length) : (dRow S k).deliver 0 = (⟨1, 2, S.getD k []⟩, 0, dRow S (k + 1)) := by
  have hh : (dRow S k).has 0 = true := by rw [has_iff, dRow_len]; omega
  have hm : (dRow S k).msg 0 = ⟨1, 2, S.getD k []⟩ := by
    have h := Nt.msg_get hh
    simp only [dRow, List.getElem?_map, List.getElem?_drop] at h
    rw [show k + (0 : Int).toNat = k by simp, List.getElem?_eq_getElem hk] at h
    simp only [Option.map_some, Option.some.injEq] at h
    rw [List.getD_eq_getElem?_getD, List.getElem?_eq_getElem hk]
    exact h.symm
  unfold Nt.deliver
  rw [if_neg (by rw [hh]; simp), hm]
  rw [if_neg (by show ¬ (dRow S k).isOpen 1 2 = false; rw [dRow_open]; simp)]
  unfold Nt.out dRow
  simp only [show (0 : Int).toNat = 0 by rfl]
  rw [List.drop_eq_getElem_cons hk]
  rfl
theorem dRow_new : dRow [] 0 = Nt.new 2 := rfl
theorem mask4 (n : Int) : ∃ A : Nat, A < 16 ∧ bits .and .i64 n 15 = (A : Int) := by
  refine ⟨((BitVec.ofInt 64 n) &&& (BitVec.ofInt 64 15)).toNat, ?_, ?_⟩
  · rw [BitVec.toNat_and]
    exact Nat.lt_of_le_of_lt Nat.and_le_right (by decide)
  · have hlt : ((BitVec.ofInt 64 n) &&& (BitVec.ofInt 64 15)).toNat < 16 := by
      rw [BitVec.toNat_and]
      exact Nat.lt_of_le_of_lt Nat.and_le_right (by decide)
    show IntKind.i64.wrap ((((BitVec.ofInt 64 n) &&& (BitVec.ofInt 64 15)).toNat : Nat) : Int) = _
    generalize ((BitVec.ofInt 64 n) &&& (BitVec.ofInt 64 15)).toNat = A at hlt ⊢
    exact IntWalk.i64_in _ (by omega)
abbrev OwnStrs (base : Nat) (w : World) (v : Value) (ks : List Bs) : Prop := w.ownsRow base 9 1 v ks.length (ks.map encStr)
theorem info9 : (Try.prog.info? 9).map (fun i => (i.zero, i.size, i.bytes)) = some (some (.string ByteArray.empty), 1, 16) := by kernel_rfl
theorem OwnStrs.form {base : Nat} {w : World} {v : Value} {ks : List Bs} (h : OwnStrs base w v ks) : ∃ a cap, v = .slice a ks.length cap := by
  rcases h.2 with ⟨rfl, h0⟩ | ⟨g, cap, cur, rfl, _⟩
  · exact ⟨none, 0, by rw [h0]⟩
  · exact ⟨_, _, rfl⟩
theorem OwnStrs.chg {base : Nat} {w w' : World} {v : Value} {ks : List Bs} {S : Nat → Prop} (h : OwnStrs base w v ks) (hc : Chg S w w') (hS : ∀ k, v.ownBlock = some k → ¬ S k) : OwnStrs base w' v ks := by
  refine ⟨h.1, ?_⟩
  rcases h.2 with h2 | ⟨g, cap, cur, rfl, hbg, hg, r⟩
  · exact .inl h2
  · exact .inr ⟨g, cap, cur, rfl, hbg, hc.heap hg (hS g rfl), r⟩
theorem OwnStrs.keep {base : Nat} {w W : World} {v : Value} {ks : List Bs} {I : Bks} (h : OwnStrs base w v ks) (hk : Keep I w W) (hI : ∀ k, v.ownBlock = some k → I k) : OwnStrs base W v ks := by
  refine ⟨h.1, ?_⟩
  rcases h.2 with h2 | ⟨g, cap, cur, rfl, hbg, hg, r⟩
  · exact .inl h2
  · exact .inr ⟨g, cap, cur, rfl, hbg, by rw [hk.2 g (hI g rfl) (lt_of_block hg)]; exact hg, r⟩
theorem run_append_str (w : World) (ty : TypeId) (base : Nat) (v : Value) (ks : List Bs) (k : Bs) (hown : OwnStrs base w v ks) (ad : Addr) (cap : Nat) (hk : w.cell? ad = some (encStr k)) (hbase : base ≤ w.heap.size) (hsmall : ks.length ≤ 1000000) :
    ∃ v' w', (Builtin.append_ #[60, 60] ty #[v, .slice (some ad) 1 cap]).run Try.prog w = .ok v' w' ∧ OwnStrs base w' v' (ks ++ [k]) ∧ w.grownBy w' v.ownBlock ∧ Placed w v v' := by
  obtain ⟨i0, hi, hz0, hz1, hz2⟩ := info_parts info9
  have hnews : ∀ (j : Nat) u, ([encStr k] : List Value)[j]? = some u → w.cell? (ad.add j) = some u := fun j u hj => by
    cases j with
    | zero => simp at hj; subst hj; rw [show ad.add 0 = ad from by cases ad; rfl]; exact hk
    | succ j => simp at hj
  have hone : ∀ u ∈ ([encStr k] : List Value), u.oneCell' = true := fun u hu => by simp at hu; subst hu; rfl
  obtain ⟨v', w', hr, ho, hg, hiff⟩ := run_append_own_wide (P := Try.prog) w base 60 ty 9 i0 (.string ByteArray.empty) 1 16 Try.underlying60 hi hz0 hz1 hz2 rfl (by decide) v ks.length (ks.map encStr) hown ad 1 cap [encStr k] rfl hnews hone (by unfold maxLen; omega) (by omega) hbase
  refine ⟨v', w', hr, ?_, hg, ?_⟩
  · unfold OwnStrs
    rw [List.length_append, List.map_append]
    exact ho
  · rcases hown.2 with ⟨rfl, h0⟩ | ⟨g, cap', cur, rfl, hbg, hgc, hnc, hcm, hcs, htake⟩
    · have hr2 := run_append_nil (P := Try.prog) w 60 ty 9 i0 (.string ByteArray.empty) Try.underlying60 hi hz0 ad 1 cap [encStr k] (by rw [hz1]; rfl) hnews (by omega) (by omega) (by rw [hz2]; omega)
      rw [hr] at hr2
      injection hr2 with h2 h3
      right
      intro k hk
      rw [h2] at hk
      simp [Value.ownBlock] at hk
      omega
    · by_cases hroom : ks.length + 1 ≤ cap'
      · have hr2 := run_append_room (P := Try.prog) w 60 ty 9 i0 Try.underlying60 hi g ks.length cap' cur hgc ad 1 cap [encStr k] (by rw [hz1]; rfl) hnews hone hroom (by rw [hz1]; simp; omega)
        rw [hr] at hr2
        injection hr2 with h2 h3
        left
        rw [h2]; rfl
      · have hr2 := run_append_grow (P := Try.prog) w 60 ty 9 i0 (.string ByteArray.empty) Try.underlying60 hi hz0 ⟨g, 0, none⟩ ks.length cap' (ks.map encStr) (by rw [hz1]; simp) (World.ownsRow.cells hown rfl) ad 1 cap [encStr k] (by rw [hz1]; rfl) hnews (by omega) (by omega) (growslice_fits_wide (by omega) (by rw [hz2]; omega))
        rw [hr] at hr2
        injection hr2 with h2 h3
        right
        intro k hk
        rw [h2] at hk
        simp [Value.ownBlock] at hk
        omega
theorem wpList_append_str {w : World} {ops : Array Oper} {rest : List Oper} {o : Oper} {a : Act} {Q : Exit → Act → World → Prop} (hgd : o.guard = none) (s x : Operand)
    (ho : o.op = .call { callee := .builtin .append, args := #[s, x], argTypes := #[60, 60] }) (base : Nat) (v : Value) (ks : List Bs) (k : Bs) (hown : OwnStrs base w v ks) (ad : Addr) (cap : Nat) (hs : a.eval s = v) (hx : a.eval x = .slice (some ad) 1 cap) (hk : w.cell? ad = some (encStr k)) (hbase : base ≤ w.heap.size) (hsmall : ks.length ≤ 1000000)
    (h : ∀ v' w', OwnStrs base w' v' (ks ++ [k]) → w.grownBy w' v.ownBlock → Placed w v v' → wpList Try.prog ops Q rest (a.put o.dst v') w') : wpList Try.prog ops Q (o :: rest) a w := by
  refine wpList_plain hgd fun K hK => ?_
  obtain ⟨v', w', hr, h2, h3, h4⟩ := run_append_str w o.type base v ks k hown ad cap hk hbase hsmall
  unfold Oper.wp execOp
  simp only [ho, resolve, invoke, builtin, Sem.run_bind, Sem.run_pure, Result.andThen_ok, List.map_toArray, List.map_cons, List.map_nil, hs, hx, hr]
  exact hK _ _ (h v' w' h2 h3 h4)
/-- the slice v of slices reads as the texts l -/
def PartsAt (w : World) (v : Value) (ls : List (List UInt8)) : Prop :=
  ∃ a cap, v = .slice a ls.length cap ∧ ls.length ≤ maxLen ∧ (0 < ls.length → ∃ b off, a = some ⟨b, off, none⟩ ∧ b < w.heap.size ∧ ∀ j, j < ls.length → ∃ u, w.cell? ⟨b, off + j, none⟩ = some u ∧ BytesAt w u (ls.getD j []))
theorem cells59 : Try.prog.cellsOf 31 = 1 := by kernel_rfl
section
open Go.ChangeShapes Go.WideShapes Go.ChangeAt Go.RowKit Go.Deep
variable {H : Type} {enc : TypeId × Value → H} {W : World} {base : Nat} {v : Value} {d : DataW H} {p : List MemPlace}
set_option maxRecDepth 100000 in
theorem parts_open (hval : Value.okWide Try.prog W .any base 59 v) (h : DataW.Trod enc Try.prog W 0 (fun _ => true) true 59 v d p) : ∃ ls, PartsAt W v ls := by
  obtain ⟨a0, len, cap, rfl⟩ := okWide_slice Try.underlying59 hval
  obtain ⟨fuel, hf⟩ := h
  rcases open_int_rows Try.underlying59 Try.underlying31 Try.underlying5 cells59 cells5 hf with ⟨hcs, hx⟩ | ⟨a, len', cap', A, L, C, Z, hcs, _, hl, hm, hx, hrows⟩
  · simp [Value.cells] at hcs
    obtain ⟨rfl, rfl, rfl⟩ := hcs
    exact ⟨[], none, 0, rfl, Nat.zero_le _, fun h => absurd h (by simp)⟩
  · simp [Value.cells] at hcs
    obtain ⟨rfl, rfl, rfl⟩ := hcs
    refine ⟨(List.range len).map fun r => ((Z r).take (L r)).map byteOf, some a, cap, by simp, by simp; omega, fun h => ?_⟩
    simp only [List.length_map, List.length_range] at h ⊢
    obtain ⟨b, off, sp⟩ := a
    have c0 := (hrows 0 (by omega)).1
    have hs : sp = none := by simpa [Addr.add] using World.cell?_spot c0
    subst hs
    have hb : b < W.heap.size := by
      rcases Nat.lt_or_ge b W.heap.size with h' | h'
      · exact h'
      · simp [World.cell?, Addr.add, Array.getElem?_eq_none h'] at c0
    refine ⟨b, off, rfl, hb, fun j hj => ?_⟩
    obtain ⟨cj, hLC, hCm, hZ, hw, hn, hsome⟩ := hrows j (by omega)
    rw [Addr.add_lit] at cj
    refine ⟨_, cj, ?_⟩
    have e : ((List.range len).map fun r => ((Z r).take (L r)).map byteOf).getD j [] = ((Z j).take (L j)).map byteOf := by
      rw [List.getD_eq_getElem?_getD, List.getElem?_map, List.getElem?_range hj]; rfl
    rw [e]
    cases hAj : A j with
    | none =>
      have hC0 := hn hAj
      have hL0 : L j = 0 := by omega
      rw [hC0, hL0]
      exact .inl ⟨rfl, by simp⟩
    | some a' => exact bytesAt_ints hLC hCm hZ (hsome a' hAj).2 hw
end
/-- a net of two that delivers in order, and the row of what was sent -/
def RowAt (w wr : World) (p : Nat) (S : List Bs) (k : Nat) (v : Value) : Prop :=
  ∃ J, One w J wr p (dRow S k) ∧ OwnStrs w.heap.size wr v S ∧ (∀ j, v.ownBlock = some j → J j) ∧ (∀ j, j < w.heap.size → J j)
theorem RowAt.push {w wi wa w2 : World} {p k : Nat} {S : List Bs} {b : Bs} {v v2 : Value} {J : Bks} (h1 : One w J wi p (dRow (S ++ [b]) k)) (ho : OwnStrs w.heap.size wi v S) (hv : ∀ j, v.ownBlock = some j → J j) (hl : ∀ j, j < w.heap.size → J j) (hA : Below wi.heap.size wi wa) (ho2 : OwnStrs w.heap.size w2 v2 (S ++ [b])) (hg : wa.grownBy w2 v.ownBlock) (hp : Placed wa v v2) : RowAt w w2 p (S ++ [b]) k v2 := by
  have hc : Chg (fun j => v.ownBlock = some j) wi w2 := (Chg.of_below (S := fun j => v.ownBlock = some j) hA (Nat.le_refl _)).grown hg fun j hj => .inl hj
  have hlt := fun j hj => World.ownsRow.lt ho j hj
  have hlt2 := fun j hj => World.ownsRow.lt ho2 j hj
  refine ⟨fun j => J j ∨ (v2.ownBlock = some j ∧ wi.heap.size ≤ j), h1.write hc (fun j hj => ⟨hv j hj, (hlt j hj).1⟩) _ fun j hj => ⟨hj.2, (hlt2 j hj.1).2⟩, ho2, fun j hj => ?_, fun j hj => .inl (hl j hj)⟩
  rcases hp with e | e
  · exact .inl (hv j (e.symm.trans hj))
  · exact .inr ⟨hj, Nat.le_trans hA.size (e j hj)⟩
end Go.Proofs.Ytbmebmkpjbgdoaa
