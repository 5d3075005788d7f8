/- The document's answer: a text's bytes, a part's. -/
import Derived.Test.YtniogemgkcoimaaRefS
namespace Go.Proofs.Ytniogemgkcoimaa
open Go.RowKit
theorem run_append_text (w : World) (ty : TypeId) (base g : Nat) (l s : List UInt8) (hown : OwnBytes base w (.slice (some ⟨g, 0, none⟩) l.length l.length) l) (hsmall : l.length + s.length ≤ 100000000) (hbase : base ≤ w.heap.size) :
    ∃ v' w', (Builtin.append_ #[27, 9] ty #[.slice (some ⟨g, 0, none⟩) l.length l.length, .string ⟨s.toArray⟩]).run Try.prog w = .ok v' w' ∧ OwnBytes base w' v' (l ++ s) ∧ Below w.heap.size w w' := by
  obtain ⟨i0, hi, hz0, hz1, hz2⟩ := info_parts info5
  have hsz : (⟨s.toArray⟩ : ByteArray).size = s.length := by simp [ByteArray.size]
  by_cases h0 : s.length = 0
  · obtain rfl : s = [] := List.eq_nil_of_length_eq_zero h0
    refine ⟨.slice (some ⟨g, 0, none⟩) l.length l.length, w, ?_, by rw [List.append_nil]; exact hown, Below.refl _ _⟩
    simp [Builtin.append_, run_underlying Try.underlying27, run_underlying Try.underlying9, sizeOf, typeInfo, hi, Builtin.lenOf, Builtin.firstCells, storeCells, ByteArray.size]
  · have hn : ¬ (l.length + s.length ≤ l.length) := by omega
    have h63' : ¬ (9223372036854775807 < ((l.length : Int) + (s.length : Int))) := by omega
    have hfit : Builtin.nextslicecap (l.length + s.length) l.length * i0.bytes ≤ 281474976710656 := growslice_fits_wide (by omega) (by rw [hz2]; omega)
    have h48' : ¬ (281474976710656 < Builtin.nextslicecap (l.length + s.length) l.length * i0.bytes) := by omega
    have hfo := run_firstCells_some (P := Try.prog) w.drew i0.size l.length ⟨g, 0, none⟩ l.length l.length (l.map byteV) (by simp [hz1]) (World.ownsRow.cells hown rfl)
    have hge := grownCap_ge w (l.length + s.length) l.length 5
    have hcm := grownCap_le_maxLen w (l.length + s.length) l.length 5 (by rw [maxLen_eq]; omega)
    refine ⟨.slice (some ⟨w.heap.size, 0, none⟩) (l ++ s).length (grownCap w (l.length + s.length) l.length 5), w.drew.alloc (.cells ((l.map byteV).toArray ++ (s.map byteV).toArray ++ Builtin.zeroCells (Value.cells (.int .u8 0)) (grownCap w (l.length + s.length) l.length 5 - (l.length + s.length))) 5), ?_, ?_, ?_⟩
    · simp only [Builtin.firstCells] at hfo
      have ht : List.take s.length (List.map (fun b : UInt8 => Value.int .u8 (b.toNat : Int)) s) = s.map byteV := by
        rw [List.take_of_length_le (by simp)]; rfl
      simp [Builtin.append_, run_underlying Try.underlying27, run_underlying Try.underlying9, sizeOf, typeInfo, zeroValue, hi, hz0, Builtin.lenOf, Builtin.firstCells, hn, h63', h48', Question.forced, hfo, newRow, grownCap, hsz, ht]
      congr 2
      apply Array.ext'
      simp
    · refine ⟨by simp, .inr ⟨w.heap.size, _, _, by rw [List.length_append], hbase, heap_alloc_new w.drew _, by rw [List.length_append]; exact hge, hcm, ?_, ?_⟩⟩
      · simp only [Array.size_append, List.size_toArray, size_zeroCells, List.length_map]
        simp [Value.cells]
        omega
      · have hlen : ((l ++ s).map byteV).length = l.length + s.length := by simp
        simp only [Array.toList_append, List.map_append, List.length_append, Nat.mul_one]
        rw [← List.map_append, ← hlen]
        exact List.take_left
    · exact (Below.refl w.heap.size w).drew.alloc (Nat.le_refl _) _
theorem wpList_append_text {w : World} {ops : Array Oper} {rest : List Oper} {o : Oper} {a : Act} {Q : Exit → Act → World → Prop} (hgd : o.guard = none) (s x : Operand)
    (ho : o.op = .call { callee := .builtin .append, args := #[s, x], argTypes := #[27, 9] }) (base g n : Nat) (l b : List UInt8) (S : ByteArray) (hS : S = ⟨b.toArray⟩) (hn : n = l.length) (hs : a.eval s = .slice (some ⟨g, 0, none⟩) n n) (hx : a.eval x = .string S)
    (hown : OwnBytes base w (.slice (some ⟨g, 0, none⟩) n n) l) (hsmall : l.length + b.length ≤ 100000000) (hbase : base ≤ w.heap.size)
    (h : ∀ v' w', OwnBytes base w' v' (l ++ b) → Below w.heap.size w w' → wpList Try.prog ops Q rest (a.put o.dst v') w') : wpList Try.prog ops Q (o :: rest) a w := by
  subst hS hn
  refine wpList_plain hgd fun K hK => ?_
  obtain ⟨v', w', hr, h2, h3⟩ := run_append_text w o.type base g l b hown hsmall hbase
  unfold Oper.wp execOp
  simp only [ho, resolve, invoke, builtin, Sem.run_bind, Sem.run_pure, Result.andThen_ok, List.map_toArray, List.map_cons, List.map_nil, hs, hx, hr]
  exact hK _ _ (h v' w' h2 h3)
set_option maxRecDepth 100000 in
set_option maxHeartbeats 400000 in
theorem refText_any (s : List UInt8) (w : World) (hs : s.length ≤ 10000000) :
    Calls Try.prog 42 #[.string ⟨s.toArray⟩] w fun e w' => ∃ v, e = .returned v ∧ BytesAt w' v (short s.length ++ s) ∧ Below w.heap.size w w' := by
  have hsz : (⟨s.toArray⟩ : ByteArray).size = s.length := by simp [ByteArray.size]
  have hsl := short_length s.length
  have hwr : IntKind.u64.wrap ((s.length : Nat) : Int) = ((s.length : Nat) : Int) := by
    simp [IntKind.wrap, IntKind.bits, IntKind.signed]; omega
  obtain ⟨S, hS⟩ : ∃ S : ByteArray, (⟨s.toArray⟩ : ByteArray) = S := ⟨_, rfl⟩
  have HS := Lib.hid hS.symm
  rw [hS] at hsz ⊢
  clear hS
  go_enter Try.func42, Try.ntmps42
  go_wp2_with fail
  refine (refShort_any s.length w (by omega)).mono ?_
  rintro e w1 ⟨g, rfl, hown, hb⟩
  have H1 := Lib.hid (And.intro hown hb)
  clear hown hb hwr
  go_wp2_with (at_builtin; refine wpList_append_text rfl _ _ rfl w.heap.size g _ (short s.length) s S HS.out rfl rfl rfl H1.out.1 (by omega) H1.out.2.size ?_; intro v2 w2 hown2 hb2; have HF : Hid (BytesAt w2 v2 (short s.length ++ s) ∧ Below w.heap.size w w2) := ⟨hown2.bytesAt, H1.out.2.trans (hb2.mono H1.out.2.size)⟩; clear hown2 hb2)
  go_ret
  exact ⟨_, rfl, HF.out⟩
end Go.Proofs.Ytniogemgkcoimaa
