/- Slices of bytes of the call's own: append from whatever reads as bytes. -/
import Derived.Test.YtimgbemdkajemaaDoorRef
import Derived.Laws.AppendOwnNone
import Derived.Laws.Rows
import Derived.Lib.SmallJoins
namespace Go.Proofs.YtimgbemdkajemaaDoor
open Go.RowKit Crc
theorem info5 : (Tryd.prog.info? 5).map (fun i => (i.zero, i.size, i.bytes)) = some (some (.int .u8 0), 1, 1) := by kernel_rfl
def byteV (b : UInt8) : Value := .int .u8 (b.toNat : Int)
def OwnBytes (base : Nat) (w : World) (v : Value) (l : List UInt8) : Prop := w.ownsRow base 5 1 v l.length (l.map byteV)
theorem OwnBytes.nil (base : Nat) (w : World) : OwnBytes base w (.slice none 0 0) [] := World.ownsRow_nil w base 5 1
theorem getD_cell (l : List UInt8) (j : Nat) (h : j < l.length) : (l.map byteV)[j]? = some (.int .u8 ((l.getD j 0).toNat : Int)) := by
  rw [List.getElem?_map, List.getElem?_eq_getElem h, List.getD_eq_getElem?_getD, List.getElem?_eq_getElem h]; rfl
theorem OwnBytes.form {base : Nat} {w : World} {v : Value} {l : List UInt8} (h : OwnBytes base w v l) : ∃ a cap, v = .slice a l.length cap := by
  rcases h.2 with ⟨rfl, h0⟩ | ⟨g, cap, cur, rfl, _⟩
  · exact ⟨none, 0, by rw [h0]⟩
  · exact ⟨_, _, rfl⟩
theorem OwnBytes.bytesAt {base : Nat} {w : World} {v : Value} {l : List UInt8} (h : OwnBytes base w v l) : BytesAt w v l := by
  rcases h.2 with ⟨rfl, h0⟩ | ⟨g, cap, cur, rfl, hbg, hg, hnc, hcm, hcs, htake⟩
  · exact .inl ⟨rfl, List.eq_nil_of_length_eq_zero h0⟩
  · refine BytesAt.mk' g 0 cap (by unfold maxLen at hcm ⊢; omega) (fun _ => (Array.getElem?_eq_some_iff.1 hg).1) fun j hj => ?_
    have := World.ownsRow.cellAt h j (by omega)
    rw [Nat.zero_add, this]
    exact getD_cell l j hj
theorem OwnBytes.kept {base : Nat} {w w' : World} {v : Value} {l : List UInt8} {B : Nat} (h : OwnBytes base w v l) (hb : Below B w w') (hB : w.heap.size ≤ B) : OwnBytes base w' v l := by
  refine ⟨h.1, ?_⟩
  rcases h.2 with h2 | ⟨g, cap, cur, hv, hbg, hg, r⟩
  · exact .inl h2
  · exact .inr ⟨g, cap, cur, hv, hbg, by have := (Array.getElem?_eq_some_iff.1 hg).1; rw [hb.block g (by omega)]; exact hg, r⟩
theorem OwnBytes.alloc {base : Nat} {w : World} {v : Value} {l : List UInt8} (h : OwnBytes base w v l) (o : Obj) : OwnBytes base (w.alloc o) v l := World.ownsRow.alloc h o
theorem OwnBytes.base_le {base base' : Nat} {w : World} {v : Value} {l : List UInt8} (h : OwnBytes base w v l) (hb : base' ≤ base) : OwnBytes base' w v l := Go.Joins.ownsRow_le h hb
theorem OwnBytes.own {base : Nat} {w : World} {v : Value} {l : List UInt8} (h : OwnBytes base w v l) : ∀ k, v.ownBlock = some k → base ≤ k := fun k hk => (World.ownsRow.lt h k hk).1
/-- one byte in a block of its own -/
theorem bytesAt_one (w : World) (t : TypeId) (b : UInt8) : BytesAt (w.alloc (.cells #[byteV b] t)) (.slice (some ⟨w.heap.size, 0, none⟩) 1 1) [b] := by
  refine BytesAt.mk' (l := [b]) w.heap.size 0 1 (by simp [maxLen]) (fun _ => by simp) fun j hj => ?_
  obtain rfl : j = 0 := by simp at hj; omega
  simp [byteV]
/-- one slice in a block of its own -/
theorem partsAt_one {w : World} {t : TypeId} {v : Value} {l : List UInt8} (h : BytesAt w v l) : PartsAt (w.alloc (.cells #[v] t)) (.slice (some ⟨w.heap.size, 0, none⟩) 1 1) [l] := by
  refine ⟨_, 1, rfl, by simp [maxLen], fun _ => ⟨w.heap.size, 0, rfl, by simp, fun j hj => ?_⟩⟩
  obtain rfl : j = 0 := by simp at hj; omega
  exact ⟨v, by simp, h.below ((Below.refl _ _).alloc (Nat.le_refl _) _) (Nat.le_refl _)⟩

theorem wpList_append_bytes {w : World} {ops : Array Oper} {rest : List Oper} {o : Oper} {a : Act} {Q : Exit → Act → World → Prop} (hgd : o.guard = none) (s x : Operand)
    (ho : o.op = .call { callee := .builtin .append, args := #[s, x], argTypes := #[23, 23] }) (base : Nat) (v u : Value) (n l : List UInt8) (hs : a.eval s = v) (hx : a.eval x = u)
    (hown : OwnBytes base w v n) (hb : BytesAt w u l) (hsmall : n.length + l.length ≤ 175921860444160) (hbase : base ≤ w.heap.size)
    (h : ∀ v' w', OwnBytes base w' v' (n ++ l) → w.grownBy w' v.ownBlock → wpList Tryd.prog ops Q rest (a.put o.dst v') w') : wpList Tryd.prog ops Q (o :: rest) a w := by
  obtain ⟨i0, hi, hz0, hz1, hz2⟩ := info_parts info5
  rcases hb with ⟨rfl, rfl⟩ | ⟨ad, cap, rfl, hl, hc⟩
  · exact wpList_append_own_none hgd s x 23 ho base 5 i0 1 Tryd.underlying23 hi v n.length (n.map byteV) hs hown hx (h v w (by rw [List.append_nil]; exact hown) (World.grownBy.refl _ _))
  · refine wpList_append_own_wide w hgd s x 23 ho base 5 i0 (.int .u8 0) 1 1 Tryd.underlying23 hi hz0 hz1 hz2 rfl (by decide) v n.length (n.map byteV) hs hown ad l.length cap (l.map byteV) hx (by simp) ?_ ?_ ?_ ?_ hbase ?_
    · intro j u hj
      have hjl : j < l.length := by
        have := (List.getElem?_eq_some_iff.1 hj).1; simpa using this
      rw [getD_cell l j hjl] at hj
      obtain ⟨b, off, rfl, _, hc⟩ := hc (by omega)
      rw [← hj, Addr.add_lit]
      exact hc j hjl
    · intro u hu
      obtain ⟨y, _, rfl⟩ := List.mem_map.1 hu
      rfl
    · unfold maxLen; omega
    · omega
    · intro v' w' hown' hg _
      refine h v' w' ?_ hg
      unfold OwnBytes
      rw [List.length_append, List.map_append]
      exact hown'
end Go.Proofs.YtimgbemdkajemaaDoor
