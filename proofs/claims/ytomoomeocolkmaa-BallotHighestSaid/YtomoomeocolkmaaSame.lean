/- SamePromise; bytes that are spoilt. -/
import Derived.Test.YtomoomeocolkmaaHighest
import Derived.Shelf.Bytes.SlSmallAll
namespace Go.Proofs.Ytomoomeocolkmaa
open Go.RowKit
theorem string_bytes {W : World} {I : Nat → Prop} {v : Value} {l : List UInt8} (h : BytesIn I W v l) : (convert 45 9 v).run Try.prog W = .ok (.string ⟨l.toArray⟩) W := by
  rcases h with ⟨rfl, rfl⟩ | ⟨ad, cap, rfl, hl, hc⟩
  · exact run_convert_bytes_nil W 45 5 Try.underlying45 Try.underlying5 0 0 9 Try.underlying9
  · rcases Nat.eq_zero_or_pos l.length with h0 | hpos
    · obtain rfl : l = [] := List.eq_nil_of_length_eq_zero h0
      exact run_convert_bytes_zero W 45 5 Try.underlying45 Try.underlying5 (some ad) cap 9 Try.underlying9
    · obtain ⟨b, off, rfl, hb, hc⟩ := hc hpos
      rw [run_convert_bytes_arg W 45 5 Try.underlying45 Try.underlying5 b off l.length cap (l.map fun y => (y.toNat : Int)) (by simp) (fun i hi => by rw [hc i hi]; simp [hi]) 9 Try.underlying9]
      congr 2
      unfold strOfNums
      have e : ((fun n : Int => UInt8.ofNat n.toNat) ∘ fun y : UInt8 => (y.toNat : Int)) = id := by funext y; simp
      simp [e]
theorem wrap_byte (v : Int) : ∃ z : UInt8, IntKind.u8.wrap v = ((z.toNat : Nat) : Int) := by
  have h1 : IntKind.u8.wrap v = v % 256 := by
    simp [IntKind.wrap, IntKind.bits, IntKind.signed]
  refine ⟨UInt8.ofNat (v % 256).toNat, ?_⟩
  rw [h1, UInt8.toNat_ofNat']
  omega
theorem OwnBytes.spoil {base : Nat} {w : World} {g cap L : Nat} {l : List UInt8} (hL : l.length = L) (h : OwnBytes base w (.slice (some ⟨g, 0, none⟩) L cap) l) (j : Nat) (hj : j < L) :
    (∃ x : Int, w.cell? ⟨g, j, none⟩ = some (.int .u8 x)) ∧ w.frozen? ⟨g, j, none⟩ = false ∧ ∀ v : Int, ∃ l' : List UInt8, l'.length = L ∧ OwnBytes base (w.setCell ⟨g, j, none⟩ (.int .u8 (IntKind.u8.wrap v))) (.slice (some ⟨g, 0, none⟩) L cap) l' := by
  subst hL
  refine ⟨⟨_, by rw [World.ownsRow.cellAt h j (by omega)]; exact getD_cell l j hj⟩, World.ownsRow.frozenAt h j, fun v => ?_⟩
  obtain ⟨z, hz⟩ := wrap_byte v
  refine ⟨l.set j z, List.length_set, ?_⟩
  rw [hz]
  have := (World.ownsRow.stored h j (.int .u8 ((z.toNat : Nat) : Int))).1
  unfold OwnBytes
  rw [List.length_set, List.map_set]
  exact this
set_option maxRecDepth 100000 in
set_option maxHeartbeats 1000000 in
theorem same_any (f : Int) (p a : BV) (b : List UInt8) (ua ua' : Option Addr) (uc uc' L : Nat) (w : World) (hxb : BytesAt w (.slice ua L uc) b) (hyb : BytesAt w (.slice ua' L uc') b) :
    Calls Try.prog 26 #[.agg #[.int .i64 f, .int .u64 p.r, .int .i64 p.n, .int .u64 p.i, .int .u64 a.r, .int .i64 a.n, .int .u64 a.i, .slice ua L uc], .agg #[.int .i64 f, .int .u64 p.r, .int .i64 p.n, .int .u64 p.i, .int .u64 a.r, .int .i64 a.n, .int .u64 a.i, .slice ua' L uc']] w fun e w' => e = .returned (.bool true) ∧ Below w.heap.size w w' := by
  have k1 := fun o o' => string_bytes (BytesIn.below hxb (Go.Joins.below_alloc2 w o o') (Nat.le_refl _))
  have k2 := fun o o' => string_bytes (BytesIn.below hyb (Go.Joins.below_alloc2 w o o') (Nat.le_refl _))
  have HB := Lib.hid (fun o o' => Go.Joins.below_alloc2 w o o')
  have z1 := fun w => eql24 p p w
  have z2 := fun w => eql24 a a w
  rw [decide_eq_true (rfl : p = p)] at z1
  rw [decide_eq_true (rfl : a = a)] at z2
  dsimp only [BV.val] at z1 z2
  have zg := guard24
  clear hxb hyb
  go_enter Try.func26, Try.ntmps26
  go_wp2
  go_ret
  exact ⟨by simp, HB.out _ _⟩
end Go.Proofs.Ytomoomeocolkmaa
