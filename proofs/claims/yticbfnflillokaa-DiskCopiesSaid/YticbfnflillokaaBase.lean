/- What a call changes; slices of bytes; append, slices.Clone. -/
import Derived.Test.YticbfnflillokaaProg
import Derived.WalkKit
import Derived.WalkSpells
import Derived.WalkLawsBesides
import Derived.RegionTactic
import Derived.RegionCalls
import Derived.Deep.RegionWith
import Derived.BigQuiet
import Derived.Outline
import Derived.Lib.Hide
import Derived.Lib.SmallJoins
import Derived.OneCell
import Derived.Deep.DeepAppendWide
import Derived.Laws.AppendOwnNone
import Derived.Laws.Rows
import Derived.Lib.SlBytesConst
import Derived.Laws.BytesArg
import Derived.Lib.ConvBytes
namespace Go.Proofs.Yticbfnflillokaa
open Go.RowKit
theorem maxLen_eq : maxLen = 9223372036854775807 := rfl
def byteV (b : UInt8) : Value := .int .u8 (b.toNat : Int)
/-- w' is w with more blocks, and with other cells in the blocks S alone -/
structure Chg (S : Nat → Prop) (w w' : World) : Prop where
  os : w'.os = w.os
  tape : w'.tape = w.tape
  output : w'.output = w.output
  size : w.heap.size ≤ w'.heap.size
  block : ∀ k, k < w.heap.size → ¬ S k → w'.heap[k]? = w.heap[k]?
theorem Chg.refl (S : Nat → Prop) (w : World) : Chg S w w := ⟨rfl, rfl, rfl, Nat.le_refl _, fun _ _ _ => rfl⟩
/-- one change behind another -/
theorem Chg.then {S S' : Nat → Prop} {a b c : World} (h : Chg S a b) (k : Chg S' b c) (hs : ∀ i, S' i → S i ∨ a.heap.size ≤ i) : Chg S a c :=
  ⟨k.os.trans h.os, k.tape.trans h.tape, k.output.trans h.output, Nat.le_trans h.size k.size, fun i hi hn => (k.block i (Nat.lt_of_lt_of_le hi h.size) fun hm => by rcases hs i hm with h' | h'; exact hn h'; omega).trans (h.block i hi hn)⟩
theorem Chg.trans {S : Nat → Prop} {a b c : World} (h : Chg S a b) (k : Chg S b c) : Chg S a c := h.then k fun _ h => .inl h
theorem Chg.mono {S S' : Nat → Prop} {a b : World} (h : Chg S a b) (hs : ∀ k, S k → S' k ∨ a.heap.size ≤ k) : Chg S' a b := (Chg.refl S' a).then h hs
theorem Chg.of_below {B : Nat} {S : Nat → Prop} {a b : World} (h : Below B a b) (hB : a.heap.size ≤ B) : Chg S a b := ⟨h.os, h.tape, h.output, h.size, fun k hk _ => h.block k (by omega)⟩
theorem Chg.below {S : Nat → Prop} {a b : World} (h : Chg S a b) {B : Nat} (hB : B ≤ a.heap.size) (hs : ∀ k, S k → B ≤ k) : Below B a b :=
  ⟨h.os, h.tape, h.output, h.size, fun k hk => h.block k (by omega) fun hm => by have := hs k hm; omega⟩
theorem Chg.alloc {S : Nat → Prop} {a w : World} (h : Chg S a w) (o : Obj) : Chg S a (w.alloc o) :=
  h.then (S' := fun _ => False) (Chg.of_below ((Below.refl _ w).alloc (Nat.le_refl _) o) (Nat.le_refl _)) (fun _ h => h.elim)
theorem Chg.drew {S : Nat → Prop} {a w : World} (h : Chg S a w) : Chg S a w.drew := ⟨h.os, h.tape, h.output, h.size, h.block⟩
theorem Chg.drewN {S : Nat → Prop} {a w : World} (h : Chg S a w) (n : Nat) : Chg S a (w.drewN n) := ⟨h.os, h.tape, h.output, h.size, h.block⟩
theorem Chg.setCell {S : Nat → Prop} {a w : World} (h : Chg S a w) {p : Addr} (hp : S p.block ∨ a.heap.size ≤ p.block) (v : Value) : Chg S a (w.setCell p v) :=
  h.then (S' := fun k => k = p.block) ⟨rfl, rfl, rfl, by simp [World.setCell], fun k _ hn => Below.heap_setCell _ _ _ _ hn⟩ (fun i hi => by rw [hi]; exact hp)
theorem Chg.grown {S : Nat → Prop} {a w w' : World} {row : Option Nat} (h : Chg S a w) (hg : w.grownBy w' row) (hr : ∀ k, row = some k → S k ∨ a.heap.size ≤ k) : Chg S a w' :=
  h.then (S' := fun k => row = some k) ⟨hg.os, hg.tape, hg.output, hg.size, fun k hk hn => hg.block k hk (fun e => hn e.symm)⟩ (fun i hi => hr i hi)
theorem Chg.heap {S : Nat → Prop} {w w' : World} (h : Chg S w w') {k : Nat} {o : Obj} (ho : w.heap[k]? = some o) (hn : ¬ S k) : w'.heap[k]? = some o := by
  rw [h.block k (lt_of_block ho) hn]; exact ho

/-- the slice v reads as the bytes l, in blocks of which I holds -/
def BytesIn (I : Nat → Prop) (w : World) (v : Value) (l : List UInt8) : Prop :=
  (v = .slice none 0 0 ∧ l = []) ∨ ∃ (ad : Addr) (cap : Nat), v = .slice (some ad) l.length cap ∧ (l.length ≤ maxLen ∧ l.length ≤ cap) ∧ (0 < l.length → ∃ b off, ad = ⟨b, off, none⟩ ∧ (b < w.heap.size ∧ I b) ∧ ∀ j, j < l.length → w.cell? ⟨b, off + j, none⟩ = some (.int .u8 ((l.getD j 0).toNat : Int)))
abbrev BytesAt (w : World) (v : Value) (l : List UInt8) : Prop := BytesIn (fun _ => True) w v l
theorem BytesIn.mk' {I : Nat → Prop} {w : World} {l : List UInt8} (b off cap : Nat) (hl : l.length ≤ maxLen ∧ l.length ≤ cap) (hb : 0 < l.length → b < w.heap.size ∧ I b) (hc : ∀ j, j < l.length → w.cell? ⟨b, off + j, none⟩ = some (.int .u8 ((l.getD j 0).toNat : Int))) : BytesIn I w (.slice (some ⟨b, off, none⟩) l.length cap) l :=
  .inr ⟨⟨b, off, none⟩, cap, rfl, hl, fun h => ⟨b, off, rfl, hb h, hc⟩⟩
theorem BytesIn.nil (I : Nat → Prop) (w : World) : BytesIn I w (.slice none 0 0) [] := .inl ⟨rfl, rfl⟩
theorem BytesIn.form {I : Nat → Prop} {w : World} {v : Value} {l : List UInt8} (h : BytesIn I w v l) : ∃ a cap, v = .slice a l.length cap ∧ l.length ≤ maxLen ∧ l.length ≤ cap := by
  rcases h with ⟨rfl, rfl⟩ | ⟨ad, cap, rfl, hl, hc⟩
  · exact ⟨none, 0, rfl, Nat.zero_le _, Nat.zero_le _⟩
  · exact ⟨_, cap, rfl, hl.1, hl.2⟩
theorem BytesIn.wide {I J : Nat → Prop} {w : World} {v : Value} {l : List UInt8} (h : BytesIn I w v l) (hi : ∀ k, k < w.heap.size → I k → J k) : BytesIn J w v l := by
  rcases h with h | ⟨ad, cap, rfl, hl, hc⟩
  · exact .inl h
  · exact .inr ⟨ad, cap, rfl, hl, fun h => by obtain ⟨b, off, rfl, hb, hc⟩ := hc h; exact ⟨b, off, rfl, ⟨hb.1, hi b hb.1 hb.2⟩, hc⟩⟩
theorem BytesIn.at {I : Nat → Prop} {w : World} {v : Value} {l : List UInt8} (h : BytesIn I w v l) : BytesAt w v l := h.wide fun _ _ _ => trivial
theorem BytesIn.chg {I S : Nat → Prop} {w w' : World} {v : Value} {l : List UInt8} (h : BytesIn I w v l) (hc : Chg S w w') (hs : ∀ k, S k → ¬ I k) : BytesIn I w' v l := by
  rcases h with ⟨rfl, rfl⟩ | ⟨ad, cap, rfl, hl, hr⟩
  · exact .inl ⟨rfl, rfl⟩
  · exact .inr ⟨ad, cap, rfl, hl, fun h => by
      obtain ⟨b, off, rfl, hbl, hr⟩ := hr h
      refine ⟨b, off, rfl, ⟨by have := hc.size; omega, hbl.2⟩, fun j hj => ?_⟩
      rw [← hr j hj]
      exact World.cell?_of_block (hc.block b hbl.1 fun hm => hs b hm hbl.2)⟩
theorem BytesIn.below {I : Nat → Prop} {w w' : World} {B : Nat} {v : Value} {l : List UInt8} (h : BytesIn I w v l) (hb : Below B w w') (hB : w.heap.size ≤ B) : BytesIn I w' v l :=
  h.chg (Chg.of_below (S := fun _ => False) hb hB) fun _ h => h.elim
theorem BytesIn.length_le {I : Nat → Prop} {w : World} {v : Value} {l : List UInt8} (h : BytesIn I w v l) : l.length ≤ 9223372036854775807 := by
  obtain ⟨_, _, _, h, _⟩ := h.form
  unfold maxLen at h
  omega
theorem getD_take (l : List UInt8) (n j : Nat) (h : j < n) : (l.take n).getD j 0 = l.getD j 0 := by
  simp [List.getD_eq_getElem?_getD, h]
theorem BytesIn.take {I : Nat → Prop} {w : World} {a : Option Addr} {len cap n cap' : Nat} {l : List UInt8} (h : BytesIn I w (.slice a len cap) l) (hn : n ≤ l.length) (ha : a ≠ none) (hcap : n ≤ cap') : BytesIn I w (.slice a n cap') (l.take n) := by
  have hlt : (l.take n).length = n := by simp; omega
  rcases h with ⟨h1, rfl⟩ | ⟨ad, cap', h1, hl, hc⟩
  · cases h1; exact absurd rfl ha
  · cases h1
    refine .inr ⟨ad, cap', by rw [hlt], ⟨by omega, by omega⟩, fun h => ?_⟩
    obtain ⟨b, off, rfl, hb, hc⟩ := hc (by omega)
    exact ⟨b, off, rfl, hb, fun j hj => by rw [getD_take _ _ _ (by omega)]; exact hc j (by omega)⟩

theorem info5 : (Try.prog.info? 5).map (fun i => (i.zero, i.size, i.bytes)) = some (some (.int .u8 0), 1, 1) := by kernel_rfl
/-- v is a slice of the call's own with the bytes l -/
def OwnBytes (base : Nat) (w : World) (v : Value) (l : List UInt8) : Prop := w.ownsRow base 5 1 v l.length (l.map byteV)
theorem OwnBytes.nil (base : Nat) (w : World) : OwnBytes base w (.slice none 0 0) [] := World.ownsRow_nil w base 5 1
theorem getD_cell (l : List UInt8) (j : Nat) (h : j < l.length) : (l.map byteV)[j]? = some (.int .u8 ((l.getD j 0).toNat : Int)) := by
  rw [List.getElem?_map, List.getElem?_eq_getElem h, List.getD_eq_getElem?_getD, List.getElem?_eq_getElem h]; rfl
theorem OwnBytes.form {base : Nat} {w : World} {v : Value} {l : List UInt8} (h : OwnBytes base w v l) : ∃ a cap, v = .slice a l.length cap := by
  rcases h.2 with ⟨rfl, h0⟩ | ⟨g, cap, cur, rfl, _⟩
  · exact ⟨none, 0, by rw [h0]⟩
  · exact ⟨_, _, rfl⟩
theorem OwnBytes.bytesIn {base : Nat} {w : World} {v : Value} {l : List UInt8} (h : OwnBytes base w v l) : BytesIn (fun k => v.ownBlock = some k) w v l := by
  rcases h.2 with ⟨rfl, h0⟩ | ⟨g, cap, cur, rfl, hbg, hg, hnc, hcm, hcs, htake⟩
  · exact .inl ⟨rfl, List.eq_nil_of_length_eq_zero h0⟩
  · refine BytesIn.mk' g 0 cap (by unfold maxLen at hcm ⊢; omega) (fun _ => ⟨(Array.getElem?_eq_some_iff.1 hg).1, rfl⟩) fun j hj => ?_
    have := World.ownsRow.cellAt h j (by omega)
    rw [Nat.zero_add, this]
    exact getD_cell l j hj
theorem OwnBytes.at {base : Nat} {w : World} {v : Value} {l : List UInt8} (h : OwnBytes base w v l) : BytesAt w v l := h.bytesIn.at
theorem OwnBytes.lt {base : Nat} {w : World} {v : Value} {l : List UInt8} (h : OwnBytes base w v l) : ∀ k, v.ownBlock = some k → base ≤ k ∧ k < w.heap.size := World.ownsRow.lt h
theorem OwnBytes.chg {base : Nat} {w w' : World} {v : Value} {l : List UInt8} {S : Nat → Prop} (h : OwnBytes base w v l) (hc : Chg S w w') (hS : ∀ k, v.ownBlock = some k → ¬ S k) : OwnBytes base w' v l := by
  refine ⟨h.1, ?_⟩
  rcases h.2 with h2 | ⟨g, cap, cur, rfl, hbg, hg, r⟩
  · exact .inl h2
  · exact .inr ⟨g, cap, cur, rfl, hbg, hc.heap hg (hS g rfl), r⟩
theorem OwnBytes.kept {base : Nat} {w w' : World} {v : Value} {l : List UInt8} {B : Nat} (h : OwnBytes base w v l) (hb : Below B w w') (hB : w.heap.size ≤ B) : OwnBytes base w' v l :=
  h.chg (Chg.of_below (S := fun _ => False) hb hB) (fun _ _ h => h)
theorem OwnBytes.alloc {base : Nat} {w : World} {v : Value} {l : List UInt8} (h : OwnBytes base w v l) (o : Obj) : OwnBytes base (w.alloc o) v l := World.ownsRow.alloc h o
theorem OwnBytes.base_le {base base' : Nat} {w : World} {v : Value} {l : List UInt8} (h : OwnBytes base w v l) (hb : base' ≤ base) : OwnBytes base' w v l := Go.Joins.ownsRow_le h hb
theorem OwnBytes.own {base : Nat} {w : World} {v : Value} {l : List UInt8} (h : OwnBytes base w v l) : ∀ k, v.ownBlock = some k → base ≤ k := fun k hk => (World.ownsRow.lt h k hk).1
theorem OwnBytes.made (w : World) (base : Nat) (hb : base ≤ w.heap.size) : OwnBytes base (w.alloc (.cells #[] 5)) (.slice (some ⟨w.heap.size, 0, none⟩) 0 0) [] :=
  World.ownsRow_made w #[] 0 hb (Nat.zero_le _) rfl
/-- where v' lies: where v lay, or in a block that w has not -/
def Placed (w : World) (v v' : Value) : Prop := v'.ownBlock = v.ownBlock ∨ ∀ k, v'.ownBlock = some k → w.heap.size ≤ k
theorem Placed.refl (w : World) (v : Value) : Placed w v v := .inl rfl
theorem run_append_place (w : World) (ty : TypeId) (base : Nat) (v : Value) (n l : List UInt8) (hown : OwnBytes base w v n) (ad : Addr) (cap : Nat) (hb : BytesAt w (.slice (some ad) l.length cap) l) (hsmall : n.length + l.length ≤ 175921860444160) (hbase : base ≤ w.heap.size) :
    ∃ v' w', (Builtin.append_ #[31, 31] ty #[v, .slice (some ad) l.length cap]).run Try.prog w = .ok v' w' ∧ OwnBytes base w' v' (n ++ l) ∧ w.grownBy w' v.ownBlock ∧ Placed w v v' := by
  obtain ⟨i0, hi, hz0, hz1, hz2⟩ := info_parts info5
  have hc : 0 < l.length → ∃ b off, ad = ⟨b, off, none⟩ ∧ b < w.heap.size ∧ ∀ j, j < l.length → w.cell? ⟨b, off + j, none⟩ = some (.int .u8 ((l.getD j 0).toNat : Int)) := by
    intro h0
    rcases hb with ⟨h1, _⟩ | ⟨ad', cap', hv, _, h⟩
    · cases h1
    · cases hv
      obtain ⟨b, off, he, h1, h2⟩ := h h0
      cases he
      exact ⟨b, off, rfl, h1.1, h2⟩
  have hnews : ∀ (j : Nat) u, (l.map byteV)[j]? = some u → w.cell? (ad.add j) = some u := by
    intro j u hj
    have hjl : j < l.length := by
      have := (List.getElem?_eq_some_iff.1 hj).1; simpa using this
    rw [getD_cell l j hjl] at hj
    obtain ⟨b, off, rfl, _, hc⟩ := hc (by omega)
    rw [← hj, Addr.add_lit]
    exact hc j hjl
  have hone : ∀ u ∈ l.map byteV, u.oneCell' = true := by
    intro u hu
    obtain ⟨y, _, rfl⟩ := List.mem_map.1 hu
    rfl
  obtain ⟨v', w', hr, ho, hg, hiff⟩ := run_append_own_wide (P := Try.prog) w base 31 ty 5 i0 (.int .u8 0) 1 1 Try.underlying31 hi hz0 hz1 hz2 rfl (by decide) v n.length (n.map byteV) hown ad l.length cap (l.map byteV) (by simp) hnews hone (by unfold maxLen; omega) (by omega) hbase
  refine ⟨v', w', hr, ?_, hg, ?_⟩
  · unfold OwnBytes
    rw [List.length_append, List.map_append]
    exact ho
  · rcases hown.2 with ⟨rfl, h0⟩ | ⟨g, cap', cur, rfl, hbg, hgc, hnc, hcm, hcs, htake⟩
    · rcases Nat.eq_zero_or_pos l.length with h1 | h1
      · rw [hiff.2 ⟨rfl, h1⟩]; exact .inl rfl
      · have hr2 := run_append_nil (P := Try.prog) w 31 ty 5 i0 (.int .u8 0) Try.underlying31 hi hz0 ad l.length cap (l.map byteV) (by simp [hz1]) hnews h1 (by omega) (by rw [hz2]; omega)
        rw [hr] at hr2
        injection hr2 with h2 h3
        right
        intro k hk
        rw [h2] at hk
        simp [Value.ownBlock] at hk
        omega
    · by_cases hroom : n.length + l.length ≤ cap'
      · have hr2 := run_append_room (P := Try.prog) w 31 ty 5 i0 Try.underlying31 hi g n.length cap' cur hgc ad l.length cap (l.map byteV) (by simp [hz1]) hnews hone hroom (by simp [hz1]; omega)
        rw [hr] at hr2
        injection hr2 with h2 h3
        left
        rw [h2]; rfl
      · have hr2 := run_append_grow (P := Try.prog) w 31 ty 5 i0 (.int .u8 0) Try.underlying31 hi hz0 ⟨g, 0, none⟩ n.length cap' (n.map byteV) (by simp [hz1]) (World.ownsRow.cells hown rfl) ad l.length cap (l.map byteV) (by simp [hz1]) hnews (by omega) (by omega) (growslice_fits_wide (by omega) (by rw [hz2]; omega))
        rw [hr] at hr2
        injection hr2 with h2 h3
        right
        intro k hk
        rw [h2] at hk
        simp [Value.ownBlock] at hk
        omega
theorem wpList_append_place {w : World} {ops : Array Oper} {rest : List Oper} {o : Oper} {a : Act} {Q : Exit → Act → World → Prop} (hgd : o.guard = none) (s x : Operand)
    (ho : o.op = .call { callee := .builtin .append, args := #[s, x], argTypes := #[31, 31] }) (base : Nat) (v u : Value) (n l : List UInt8) (hs : a.eval s = v) (hx : a.eval x = u)
    (hown : OwnBytes base w v n) (hb : BytesAt w u l) (hsmall : n.length + l.length ≤ 175921860444160) (hbase : base ≤ w.heap.size)
    (h : ∀ v' w', OwnBytes base w' v' (n ++ l) → w.grownBy w' v.ownBlock → Placed w v v' → wpList Try.prog ops Q rest (a.put o.dst v') w') : wpList Try.prog ops Q (o :: rest) a w := by
  obtain ⟨i0, hi, hz0, hz1, hz2⟩ := info_parts info5
  rcases hb with ⟨rfl, rfl⟩ | ⟨ad, cap, rfl, hl, hc⟩
  · exact wpList_append_own_none hgd s x 31 ho base 5 i0 1 Try.underlying31 hi v n.length (n.map byteV) hs hown hx (h v w (by rw [List.append_nil]; exact hown) (World.grownBy.refl _ _) (Placed.refl _ _))
  · refine wpList_plain hgd fun K hK => ?_
    obtain ⟨v', w', hr, h2, h3, h4⟩ := run_append_place w o.type base v n l hown ad cap (.inr ⟨ad, cap, rfl, hl, hc⟩) hsmall hbase
    unfold Oper.wp execOp
    simp only [ho, resolve, invoke, builtin, Sem.run_bind, Sem.run_pure, Result.andThen_ok, List.map_toArray, List.map_cons, List.map_nil, hs, hx, hr]
    exact hK _ _ (h v' w' h2 h3 h4)
/-- what a call leaves that hands back bytes of its own -/
def Gives (w : World) (l : List UInt8) (e : Ending) (w' : World) : Prop := ∃ v, e = .returned v ∧ OwnBytes w.heap.size w' v l ∧ Below w.heap.size w w'
theorem clone_any (v : Value) (l : List UInt8) (w : World) (hp : BytesAt w v l) (hl : l.length ≤ 175921860444160) : Calls Try.prog 41 #[v] w (Gives w l) := by
  have HP := Lib.hid hp
  rcases hp with ⟨rfl, rfl⟩ | ⟨ad, cap, rfl, _, _⟩
  · have k := fun wx => Lib.run_eql_slice_nil (P := Try.prog) wx 31 5 none 0 0 0 0 Try.underlying31
    go_enter Try.func41, Try.ntmps41
    go_wp2
    go_ret
    exact ⟨_, rfl, OwnBytes.nil _ _, Below.refl _ _⟩
  · have k := fun wx => Lib.run_eql_slice_nil (P := Try.prog) wx 31 5 (some ad) l.length cap 0 0 Try.underlying31
    have HA : Hid (OwnBytes w.heap.size (w.alloc (.cells #[] 5)) (.slice (some ⟨w.heap.size, 0, none⟩) 0 0) []) := OwnBytes.made w _ (Nat.le_refl _)
    have HB : Hid (Below w.heap.size w (w.alloc (.cells #[] 5))) := (Below.refl _ _).alloc (Nat.le_refl _) _
    go_enter Try.func41, Try.ntmps41
    go_wp2_with (at_builtin; refine wpList_append_place rfl _ _ rfl w.heap.size _ _ [] l rfl rfl HA.out (HP.out.below HB.out (Nat.le_refl _)) (by simp; omega) HB.out.size ?_; intro v2 w2 hown2 hgrow2 _; have HO2 : Hid (OwnBytes w.heap.size w2 v2 l) := hown2; have HB2 : Hid (Below w.heap.size w w2) := HB.out.grown hgrow2 HB.out.size HA.out.own; clear hown2 hgrow2)
    go_ret
    exact ⟨_, rfl, HO2.out, HB2.out⟩
end Go.Proofs.Yticbfnflillokaa
