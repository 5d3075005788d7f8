/- The document's answer: a wide number's bytes, a short one's, a text's. -/
import Derived.Test.YtniogemgkcoimaaMeet
import Derived.Laws.OwnMore
namespace Go.Proofs.Ytniogemgkcoimaa
open Go.RowKit
/-- n bytes of x, the least one first -/
def leF : Nat → Nat → List UInt8
  | 0, _ => []
  | n + 1, x => UInt8.ofNat (x % 256) :: leF n (x / 256)
theorem leF_length (n x : Nat) : (leF n x).length = n := by
  induction n generalizing x with
  | zero => rfl
  | succ n ih => simp [leF, ih]
theorem leF_one (x : Nat) : leF 1 x = [UInt8.ofNat x] := by simp [leF, ofNat_mod]
theorem leF_four (x : Nat) : leF 4 x = le4 x := by
  simp only [leF, le4, ofNat_mod, Nat.div_div_eq_div_mul]
theorem OwnBytes.set {base : Nat} {w : World} {g n cap k : Nat} {l : List UInt8} (h : OwnBytes base w (.slice (some ⟨g, 0, none⟩) n cap) l) (hn : l.length = n) (b : UInt8) :
    OwnBytes base (w.setCell ⟨g, k, none⟩ (byteV b)) (.slice (some ⟨g, 0, none⟩) n cap) (l.set k b) := by
  subst hn
  have := (World.ownsRow.stored h k (byteV b)).1
  unfold OwnBytes
  rw [List.length_set, List.map_set]
  exact this
theorem OwnBytes.cell {base : Nat} {w : World} {g n cap k : Nat} {l : List UInt8} (h : OwnBytes base w (.slice (some ⟨g, 0, none⟩) n cap) l) (hn : l.length = n) (hk : k < n) :
    w.cell? ⟨g, k, none⟩ = some (.int .u8 ((l.getD k 0).toNat : Int)) ∧ w.frozen? ⟨g, k, none⟩ = false := by
  subst hn
  exact ⟨by rw [World.ownsRow.cellAt h k (by omega)]; exact getD_cell l k hk, World.ownsRow.frozenAt h k⟩
def lenV : Value → Nat
  | .slice _ k _ => k
  | _ => 0
/-- what the loop over a wide number keeps -/
structure WideAt (w wr : World) (v : Value) (n x X : Nat) (D : List UInt8) : Prop where
  eq : D ++ leF (n - D.length) X = leF n x
  le : D.length ≤ n
  own : OwnBytes w.heap.size wr v D
  below : Below w.heap.size w wr
  u64 : X < 18446744073709551616
theorem WideAt.step {w wr w' : World} {v v' : Value} {n x X : Nat} {D : List UInt8} (h : WideAt w wr v n x X D) (hlt : D.length < n) (hown : OwnBytes w.heap.size w' v' (D ++ [UInt8.ofNat (X % 256)])) (hb : Below w.heap.size w w') : WideAt w w' v' n x (X / 256) (D ++ [UInt8.ofNat (X % 256)]) := by
  have heq := h.eq
  obtain ⟨m, hm⟩ : ∃ m, n - D.length = m + 1 := ⟨n - D.length - 1, by omega⟩
  rw [hm, show leF (m + 1) X = UInt8.ofNat (X % 256) :: leF m (X / 256) from rfl] at heq
  have hl : (D ++ [UInt8.ofNat (X % 256)]).length = D.length + 1 := by simp
  exact ⟨by rw [hl, show n - (D.length + 1) = m by omega, List.append_assoc]; exact heq, by omega, hown, hb, by have := h.u64; omega⟩
set_option maxRecDepth 100000 in
set_option maxHeartbeats 400000 in
theorem refWide_any (x n : Nat) (w : World) (hx : x < 18446744073709551616) (hn : n ≤ 1000) :
    Calls Try.prog 40 #[.int .u64 (x : Nat), .int .i64 (n : Nat)] w (Gives w (leF n x)) := by
  have H0 : Hid (WideAt w w (.slice none 0 0) n x x []) := ⟨by simp, by simp, OwnBytes.nil _ _, Below.refl _ _, hx⟩
  clear hx
  go_enter Try.func40, Try.ntmps40
  go_wp2
  go_loopw [0, 5] (fun i v wr => ∃ (X : Nat) (D : List UInt8), i = .int .u64 (X : Nat) ∧ D.length ≤ n ∧ (∃ a c, v = .slice a D.length c) ∧ Hid (WideAt w wr v n x X D)) (fun _ v _ => n - lenV v)
  case atStart => exact ⟨x, [], rfl, by simp, ⟨none, 0, rfl⟩, H0.out⟩
  case round =>
    obtain ⟨X, D, rfl, hD, ⟨a, c, rfl⟩, HD⟩ := hrel
    clear H0
    by_cases hlt : D.length < n
    · have h255 := and255 X HD.out.u64
      have h8 : IntKind.u8.wrap ((X % 256 : Nat) : Int) = ((X % 256 : Nat) : Int) := by rw [wrap8, Nat.mod_mod]
      have HB : Hid (∀ cs, cs = (([UInt8.ofNat (X % 256)] : List UInt8).map byteV).toArray → BytesAt (wr.alloc (.cells cs 5)) (.slice (some ⟨wr.heap.size, 0, none⟩) 1 1) [UInt8.ofNat (X % 256)]) := fun cs hcs => by
        subst hcs; exact bytes_row wr [UInt8.ofNat (X % 256)] (0, 0) _ rfl (by simp [maxLen]) _ _ rfl (Nat.le_refl _)
      have hcs : (#[.int .u8 ((X % 256 : Nat) : Int)] : Array Value) = (([UInt8.ofNat (X % 256)] : List UInt8).map byteV).toArray := by
        simp [byteV]
      have HBA : Hid (BytesAt (wr.alloc (.cells #[.int .u8 ((X % 256 : Nat) : Int)] 5)) (.slice (some ⟨wr.heap.size, 0, none⟩) 1 1) [UInt8.ofNat (X % 256)]) := HB.out _ hcs
      have HO : Hid (OwnBytes w.heap.size (wr.alloc (.cells #[.int .u8 ((X % 256 : Nat) : Int)] 5)) (.slice a D.length c) D) := HD.out.own.alloc _
      have HBL : Hid (Below w.heap.size w (wr.alloc (.cells #[.int .u8 ((X % 256 : Nat) : Int)] 5))) := HD.out.below.alloc HD.out.below.size _
      clear HB hcs
      have hsm : D.length + 1 ≤ 1001 := by omega
      obtain ⟨L, hL⟩ : ∃ L, D.length = L := ⟨_, rfl⟩
      have HL := Lib.hid hL
      generalize hR : X % 256 = R at *
      go_wp2_with (at_builtin; refine wpList_append_bytes rfl _ _ rfl w.heap.size _ _ D [UInt8.ofNat R] rfl rfl HO.out HBA.out (by simp; omega) HBL.out.size ?_; intro v2 w2 hown2 hgrow2; have HS : Hid (WideAt w w2 v2 n x (X / 256) (D ++ [UInt8.ofNat (X % 256)])) := (HD.out.step hlt (by rw [hR]; exact hown2) (HBL.out.grown hgrow2 HBL.out.size HO.out.own)); clear hown2 hgrow2)
      obtain ⟨a2, c2, rfl⟩ := HS.out.own.form
      go_roundw
      case rel => exact ⟨X / 256, _, by go_num, HS.out.le, ⟨a2, c2, rfl⟩, HS.out⟩
      case measure => simp [lenV]; omega
    · have HF : Hid (OwnBytes w.heap.size wr (.slice a D.length c) (leF n x) ∧ Below w.heap.size w wr) := by
        have heq := HD.out.eq
        have hle := HD.out.le
        rw [show n - D.length = 0 by omega, show leF 0 X = [] from rfl, List.append_nil] at heq
        rw [← heq]
        exact ⟨HD.out.own, HD.out.below⟩
      clear HD
      go_wp2
      go_ret
      exact ⟨_, rfl, HF.out⟩
end Go.Proofs.Ytniogemgkcoimaa
