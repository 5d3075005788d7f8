/- What is a name; strings.Clone; refuses. -/
import Derived.Test.YticbfnflillokaaSmall
import Derived.Test.YticbfnflillokaaShelf
import Derived.Maps.RangeWalk
import Derived.Maps.OwnOps
import Derived.Maps.OwnSet
import Derived.Maps.Ext
namespace Go.Proofs.Yticbfnflillokaa
open Go.RowKit Go.Shelf Go.Lib Go.Maps Go.WideMaps
/-- a letter that no name has -/
def strange (x : Nat) : Bool := !(decide (97 ≤ x) && decide (x ≤ 122) || decide (48 ≤ x) && decide (x ≤ 57) || decide (x = 46))
def isName (n : Bs) : Bool := !n.isEmpty && decide (n.length ≤ 16) && !decide (0 ≤ Lib.idxFunc strange true ⟨n.toArray⟩)
set_option maxRecDepth 100000 in
theorem strange_any (x : Nat) (w : World) (hx : x ≤ 1114111) : Calls Try.prog 74 #[encR x] w fun e w' => e = .returned (.bool (strange x)) ∧ w = w' := by
  unfold encR
  go_enter Try.func74, Try.ntmps74
  go_wp2
  all_goals go_ret
  all_goals refine ⟨?_, rfl⟩
  all_goals (show Ending.returned (Value.bool _) = Ending.returned (Value.bool (strange x)); congr 2; unfold strange; rw [Bool.eq_iff_iff]; simp; omega)
theorem strange_pays (w : World) : PredAtRunes Try.prog 74 #[] strange w := by
  intro W x hx _
  exact (strange_any x W hx).mono fun e w' h => ⟨h.1, 0, by rw [← h.2]; rfl⟩
theorem enters74 : ∀ args w, (callFunc 74 args).run Try.prog w = .ok (.enter 74 args) w := enters_of Try.func74 (by kernel_rfl) rfl
theorem size_mk (n : Bs) : (⟨n.toArray⟩ : ByteArray).size = n.length := by simp [ByteArray.size]
set_option maxRecDepth 100000 in
theorem isName_any (n : Bs) (w : World) (hn : n.length ≤ maxLen) : Calls Try.prog 65 #[.string ⟨n.toArray⟩] w fun e w' => e = .returned (.bool (isName n)) ∧ Below w.heap.size w w' := by
  have HC := Lib.hid (Try.strings_ContainsFunc_runes 74 #[] enters74 strange ⟨n.toArray⟩ w (strange_pays w))
  unfold isName
  rw [maxLen_eq] at hn
  go_enter Try.func65, Try.ntmps65
  go_wp2_with (go_at_call 73; refine HC.out.mono ?_; rintro e w1 ⟨rfl, hb⟩)
  · rename_i h
    go_ret
    refine ⟨?_, Below.refl _ _⟩
    subst h; rfl
  · rename_i h1 h2
    go_ret
    refine ⟨?_, hb⟩
    rw [decide_eq_true (show n.length ≤ 16 by omega), Bool.and_true]
    rfl
  · rename_i h1 h2
    go_ret
    refine ⟨?_, Below.refl _ _⟩
    rw [decide_eq_false (show ¬ n.length ≤ 16 by omega), Bool.and_false, Bool.false_and]
    rfl
theorem isName_le {n : Bs} (h : isName n = true) : n.length ≤ 16 := by
  unfold isName at h
  simp only [Bool.and_eq_true, decide_eq_true_eq] at h
  exact h.1.2
theorem keyOf_name {n : Bs} (h : isName n = true) : keyOf Try.prog 9 (.string ⟨n.toArray⟩) = some (.string n) := by
  have := keyOf_string_mk (P := Try.prog) (k := 9) Try.underlying9 (s := ⟨n.toArray⟩) (by rw [size_mk]; have := isName_le h; unfold maxLen; omega)
  simpa using this
set_option maxRecDepth 100000 in
theorem strClone_any (n : Bs) (w : World) (hn : n.length ≤ 16) : Calls Try.prog 40 #[.string ⟨n.toArray⟩] w fun e w' => e = .returned (.string ⟨n.toArray⟩) ∧ Below w.heap.size w w' := by
  have HC := Lib.hid (Try.stringslite_Clone ⟨n.toArray⟩ w (by rw [size_mk]; omega))
  go_enter Try.func40, Try.ntmps40
  go_wp2_with (go_at_call 66; refine HC.out.mono ?_; rintro e w1 ⟨rfl, hb⟩)
  go_ret
  exact ⟨rfl, hb⟩
/-- the names that a call is handed, in a block of their own -/
def NamesAt (w : World) (b : Nat) (ns : List Bs) : Prop := b < w.heap.size ∧ ∀ j n, ns[j]? = some n → w.cell? ⟨b, j, none⟩ = some (.string ⟨n.toArray⟩) ∧ n.length ≤ maxLen
theorem NamesAt.below {w w' : World} {b : Nat} {ns : List Bs} {B : Nat} (h : NamesAt w b ns) (hb : Below B w w') (hB : w.heap.size ≤ B) : NamesAt w' b ns :=
  ⟨by have := hb.size; have := h.1; omega, fun j n hj => ⟨by rw [hb.cell (p := ⟨b, j, none⟩) (by show b < B; have := h.1; omega)]; exact (h.2 j n hj).1, (h.2 j n hj).2⟩⟩
set_option maxRecDepth 100000 in
theorem refuses_down (q : Option Addr) (v : Value) (w : World) (HD : Hid (Calls Try.prog 31 #[.pointer q] w fun e w' => e = .returned (.bool true) ∧ w = w')) :
    Calls Try.prog 38 #[.pointer q, v] w fun e w' => e = .returned (.int .i64 6) ∧ w = w' := by
  go_enter Try.func38, Try.ntmps38
  go_wp2_with (go_at_call 31; refine HD.out.mono ?_; rintro e w1 ⟨rfl, rfl⟩)
  go_ret
  exact ⟨rfl, rfl⟩
set_option maxRecDepth 100000 in
theorem refuses_up (q : Option Addr) (b : Nat) (ns : List Bs) (cap : Nat) (w : World) (HD : Hid (Calls Try.prog 31 #[.pointer q] w fun e w' => e = .returned (.bool false) ∧ w = w')) (hns : NamesAt w b ns) (hl : ns.length ≤ 2) (hcap : ns.length ≤ cap) :
    Calls Try.prog 38 #[.pointer q, .slice (some ⟨b, 0, none⟩) ns.length cap] w fun e w' => e = .returned (.int .i64 (if ns.all isName then 0 else 1)) ∧ Below w.heap.size w w' := by
  have HN := Lib.hid hns
  clear hns
  obtain ⟨K, hK⟩ : ∃ K, ns.length = K := ⟨_, rfl⟩
  rw [hK] at hl hcap ⊢
  have HK := Lib.hid hK
  obtain ⟨R, hR⟩ : ∃ R : Int, (if ns.all isName = true then 0 else 1) = R := ⟨_, rfl⟩
  rw [hR]
  have HR0 := Lib.hid hR
  clear hK hR
  go_enter Try.func38, Try.ntmps38
  go_wp2_with (go_at_call 31; refine HD.out.mono ?_; rintro e w1 ⟨rfl, rfl⟩)
  go_loopw [11] (fun i wr => ∃ k : Nat, k ≤ K ∧ i = .int .i64 (k : Nat) ∧ Hid (Below w.heap.size w wr ∧ (ns.take k).all isName = true)) (fun i _ => K - (intOf i).toNat)
  case atStart => exact ⟨0, Nat.zero_le _, rfl, Below.refl _ _, by simp⟩
  case round =>
    obtain ⟨k, hk, rfl, HR⟩ := hrel
    by_cases hlt : k < K
    · obtain ⟨n, hn⟩ : ∃ n, ns[k]? = some n := ⟨_, List.getElem?_eq_getElem (by rw [HK.out]; exact hlt)⟩
      have hc := (HN.out.below HR.out.1 (Nat.le_refl _)).2 k n hn
      have c0 := hc.1
      have HI : Hid (Calls Try.prog 65 #[.string ⟨n.toArray⟩] wr fun e w' => e = .returned (.bool (isName n)) ∧ Below wr.heap.size wr w') := isName_any n wr hc.2
      have HQ := Lib.hid hn
      clear hc hn
      cases hb : isName n
      · rw [hb] at HI
        go_wp2_with (go_at_call 65; refine HI.out.mono ?_; rintro e w2 ⟨rfl, hb2⟩; have HB2 := Lib.hid hb2; clear hb2)
        go_ret
        refine ⟨?_, HR.out.1.trans (HB2.out.mono HR.out.1.size)⟩
        rw [← HR0.out, if_neg (fun h => ?_)]
        · rfl
        · rw [List.all_eq_true] at h
          have := h n (List.mem_of_getElem? HQ.out)
          rw [hb] at this; cases this
      · rw [hb] at HI
        have HN2 : Hid ((ns.take (k + 1)).all isName = true) := by
          unfold Hid
          rw [List.take_add_one, HQ.out, List.all_append, HR.out.2]
          simp [hb]
        go_wp2_with (go_at_call 65; refine HI.out.mono ?_; rintro e w2 ⟨rfl, hb2⟩; have HB2 := Lib.hid hb2; clear hb2)
        go_roundw
        case rel => exact ⟨k + 1, by omega, by go_num, HR.out.1.trans (HB2.out.mono HR.out.1.size), HN2.out⟩
        case measure => simp [intOf]; omega
    · obtain rfl : k = K := by omega
      go_wp2
      go_ret
      refine ⟨?_, HR.out.1⟩
      have h := HR.out.2
      rw [← HK.out, List.take_length] at h
      rw [← HR0.out, if_pos h]
      rfl
end Go.Proofs.Yticbfnflillokaa
