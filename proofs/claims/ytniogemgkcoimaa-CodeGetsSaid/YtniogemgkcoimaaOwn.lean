/- Slices of bytes of the call's own; append from whatever reads as bytes; slices.Clone; strings and bytes. -/
import Derived.Test.YtniogemgkcoimaaBase
import Derived.Deep.DeepAppendWide
import Derived.Laws.AppendOwnNone
import Derived.Laws.Rows
import Derived.Lib.SlBytesConst
import Derived.Laws.BytesArg
import Derived.Lib.ConvBytes
import Derived.Shelf.Bytes.SlSmallAll
namespace Go.Proofs.Ytniogemgkcoimaa
open Go.RowKit
theorem info5 : (Try.prog.info? 5).map (fun i => (i.zero, i.size, i.bytes)) = some (some (.int .u8 0), 1, 1) := by kernel_rfl
def OwnBytes (base : Nat) (w : World) (v : Value) (l : List UInt8) : Prop := w.ownsRow base 5 1 v l.length (l.map byteV)
theorem OwnBytes.nil (base : Nat) (w : World) : OwnBytes base w (.slice none 0 0) [] := World.ownsRow_nil w base 5 1
theorem getD_cell (l : List UInt8) (j : Nat) (h : j < l.length) : (l.map byteV)[j]? = some (.int .u8 ((l.getD j 0).toNat : Int)) := by
  rw [List.getElem?_map, List.getElem?_eq_getElem h, List.getD_eq_getElem?_getD, List.getElem?_eq_getElem h]; rfl
theorem OwnBytes.form {base : Nat} {w : World} {v : Value} {l : List UInt8} (h : OwnBytes base w v l) : ∃ a cap, v = .slice a l.length cap := by
  rcases h.2 with ⟨rfl, h0⟩ | ⟨g, cap, cur, rfl, _⟩
  · exact ⟨none, 0, by rw [h0]⟩
  · exact ⟨_, _, rfl⟩
theorem OwnBytes.bytesAt {base : Nat} {w : World} {v : Value} {l : List UInt8} (h : OwnBytes base w v l) : BytesAt w v l := by
  rcases h.2 with ⟨rfl, h0⟩ | ⟨g, cap, cur, rfl, hbg, hg, hnc, hcm, hcs, htake⟩
  · exact .inl ⟨rfl, List.eq_nil_of_length_eq_zero h0⟩
  · refine BytesAt.mk' g 0 cap (by unfold maxLen at hcm ⊢; omega) (fun _ => (Array.getElem?_eq_some_iff.1 hg).1) fun j hj => ?_
    have := World.ownsRow.cellAt h j (by omega)
    rw [Nat.zero_add, this]
    exact getD_cell l j hj
theorem OwnBytes.lt {base : Nat} {w : World} {v : Value} {l : List UInt8} (h : OwnBytes base w v l) : ∀ k, v.ownBlock = some k → base ≤ k ∧ k < w.heap.size := World.ownsRow.lt h
theorem OwnBytes.chg {base : Nat} {w w' : World} {v : Value} {l : List UInt8} {S : List Nat} (h : OwnBytes base w v l) (hc : Chg S w w') (hS : ∀ k, v.ownBlock = some k → k ∉ S) : OwnBytes base w' v l := by
  refine ⟨h.1, ?_⟩
  rcases h.2 with h2 | ⟨g, cap, cur, rfl, hbg, hg, r⟩
  · exact .inl h2
  · exact .inr ⟨g, cap, cur, rfl, hbg, hc.heap hg (hS g rfl), r⟩
theorem OwnBytes.kept {base : Nat} {w w' : World} {v : Value} {l : List UInt8} {B : Nat} (h : OwnBytes base w v l) (hb : Below B w w') (hB : w.heap.size ≤ B) : OwnBytes base w' v l :=
  h.chg (Chg.of_below (S := []) hb hB) (by simp)
theorem OwnBytes.alloc {base : Nat} {w : World} {v : Value} {l : List UInt8} (h : OwnBytes base w v l) (o : Obj) : OwnBytes base (w.alloc o) v l := World.ownsRow.alloc h o
theorem OwnBytes.base_le {base base' : Nat} {w : World} {v : Value} {l : List UInt8} (h : OwnBytes base w v l) (hb : base' ≤ base) : OwnBytes base' w v l := Go.Joins.ownsRow_le h hb
theorem OwnBytes.own {base : Nat} {w : World} {v : Value} {l : List UInt8} (h : OwnBytes base w v l) : ∀ k, v.ownBlock = some k → base ≤ k := fun k hk => (World.ownsRow.lt h k hk).1
/-- an empty literal of the call's own -/
theorem OwnBytes.made (w : World) (base : Nat) (hb : base ≤ w.heap.size) : OwnBytes base (w.alloc (.cells #[] 5)) (.slice (some ⟨w.heap.size, 0, none⟩) 0 0) [] :=
  World.ownsRow_made w #[] 0 hb (Nat.zero_le _) rfl

theorem wpList_append_bytes {w : World} {ops : Array Oper} {rest : List Oper} {o : Oper} {a : Act} {Q : Exit → Act → World → Prop} (hgd : o.guard = none) (s x : Operand)
    (ho : o.op = .call { callee := .builtin .append, args := #[s, x], argTypes := #[27, 27] }) (base : Nat) (v u : Value) (n l : List UInt8) (hs : a.eval s = v) (hx : a.eval x = u)
    (hown : OwnBytes base w v n) (hb : BytesAt w u l) (hsmall : n.length + l.length ≤ 175921860444160) (hbase : base ≤ w.heap.size)
    (h : ∀ v' w', OwnBytes base w' v' (n ++ l) → w.grownBy w' v.ownBlock → wpList Try.prog ops Q rest (a.put o.dst v') w') : wpList Try.prog ops Q (o :: rest) a w := by
  obtain ⟨i0, hi, hz0, hz1, hz2⟩ := info_parts info5
  rcases hb with ⟨rfl, rfl⟩ | ⟨ad, cap, rfl, hl, hc⟩
  · exact wpList_append_own_none hgd s x 27 ho base 5 i0 1 Try.underlying27 hi v n.length (n.map byteV) hs hown hx (h v w (by rw [List.append_nil]; exact hown) (World.grownBy.refl _ _))
  · refine wpList_append_own_wide w hgd s x 27 ho base 5 i0 (.int .u8 0) 1 1 Try.underlying27 hi hz0 hz1 hz2 rfl (by decide) v n.length (n.map byteV) hs hown ad l.length cap (l.map byteV) hx (by simp) ?_ ?_ ?_ ?_ hbase ?_
    · intro j u hj
      have hjl : j < l.length := by
        have := (List.getElem?_eq_some_iff.1 hj).1; simpa using this
      rw [getD_cell l j hjl] at hj
      obtain ⟨b, off, rfl, _, hc⟩ := hc (by omega)
      rw [← hj, Addr.add_lit]
      exact hc j hjl
    · intro u hu
      obtain ⟨y, _, rfl⟩ := List.mem_map.1 hu
      rfl
    · unfold maxLen; omega
    · omega
    · intro v' w' hown' hg _
      refine h v' w' ?_ hg
      unfold OwnBytes
      rw [List.length_append, List.map_append]
      exact hown'
/-- what a call leaves that hands back bytes of its own -/
def Gives (w : World) (l : List UInt8) (e : Ending) (w' : World) : Prop := ∃ v, e = .returned v ∧ OwnBytes w.heap.size w' v l ∧ Below w.heap.size w w'
theorem clone_any (v : Value) (l : List UInt8) (w : World) (hp : BytesAt w v l) (hl : l.length ≤ 175921860444160) : Calls Try.prog 43 #[v] w (Gives w l) := by
  have HP := Lib.hid hp
  rcases hp with ⟨rfl, rfl⟩ | ⟨ad, cap, rfl, _, _⟩
  · have k := fun wx => Lib.run_eql_slice_nil (P := Try.prog) wx 27 5 none 0 0 0 0 Try.underlying27
    go_enter Try.func43, Try.ntmps43
    go_wp2
    go_ret
    exact ⟨_, rfl, OwnBytes.nil _ _, Below.refl _ _⟩
  · have k := fun wx => Lib.run_eql_slice_nil (P := Try.prog) wx 27 5 (some ad) l.length cap 0 0 Try.underlying27
    have HA : Hid (OwnBytes w.heap.size (w.alloc (.cells #[] 5)) (.slice (some ⟨w.heap.size, 0, none⟩) 0 0) []) := OwnBytes.made w _ (Nat.le_refl _)
    have HB : Hid (Below w.heap.size w (w.alloc (.cells #[] 5))) := (Below.refl _ _).alloc (Nat.le_refl _) _
    go_enter Try.func43, Try.ntmps43
    go_wp2_with (at_builtin; refine wpList_append_bytes rfl _ _ rfl w.heap.size _ _ [] l rfl rfl HA.out (HP.out.below HB.out (Nat.le_refl _)) (by simp; omega) HB.out.size ?_; intro v2 w2 hown2 hgrow2; have HO2 : Hid (OwnBytes w.heap.size w2 v2 l) := hown2; have HB2 : Hid (Below w.heap.size w w2) := HB.out.grown hgrow2 HB.out.size HA.out.own; clear hown2 hgrow2)
    go_ret
    exact ⟨_, rfl, HO2.out, HB2.out⟩
theorem string_bytes {W : World} {v : Value} {l : List UInt8} (h : BytesAt W v l) : (convert 27 9 v).run Try.prog W = .ok (.string ⟨l.toArray⟩) W := by
  rcases h with ⟨rfl, rfl⟩ | ⟨ad, cap, rfl, hl, hc⟩
  · exact run_convert_bytes_nil W 27 5 Try.underlying27 Try.underlying5 0 0 9 Try.underlying9
  · rcases Nat.eq_zero_or_pos l.length with h0 | hpos
    · obtain rfl : l = [] := List.eq_nil_of_length_eq_zero h0
      exact run_convert_bytes_zero W 27 5 Try.underlying27 Try.underlying5 (some ad) cap 9 Try.underlying9
    · obtain ⟨b, off, rfl, hb, hc⟩ := hc hpos
      rw [run_convert_bytes_arg W 27 5 Try.underlying27 Try.underlying5 b off l.length cap (l.map fun y => (y.toNat : Int)) (by simp) (fun i hi => by rw [hc i hi]; simp [hi]) 9 Try.underlying9]
      congr 2
      unfold strOfNums
      have e : ((fun n : Int => UInt8.ofNat n.toNat) ∘ fun y : UInt8 => (y.toNat : Int)) = id := by funext y; simp
      simp [e]
theorem conv_to_bytes (w : World) (l : List UInt8) (hl : l.length ≤ maxLen) : ∃ v W, (convert 9 27 (.string ⟨l.toArray⟩)).run Try.prog w = .ok v W ∧ BytesAt W v l ∧ Below w.heap.size w W := by
  refine ⟨_, _, Lib.run_convert_string_bytes w 9 27 5 ⟨l.toArray⟩ Try.underlying9 Try.underlying27 Try.underlying5, ?_, ?_⟩
  · have hs : (⟨l.toArray⟩ : ByteArray).size = l.length := by simp [ByteArray.size]
    rw [hs]
    refine BytesAt.mk' w.heap.size 0 _ ⟨hl, grownCap_ge _ _ _ _⟩ (fun _ => by rw [Lib.bytesWorld_size]; omega) fun j hj => ?_
    rw [Nat.zero_add, Lib.bytesWorld_cell w 5 ⟨l.toArray⟩ j (by rw [hs]; exact hj)]
  · exact ⟨rfl, rfl, rfl, by rw [Lib.bytesWorld_size]; omega, fun k hk => Lib.bytesWorld_at_old w 5 _ k hk⟩
end Go.Proofs.Ytniogemgkcoimaa
