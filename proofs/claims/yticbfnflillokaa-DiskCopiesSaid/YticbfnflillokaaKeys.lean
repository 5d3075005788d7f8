/- shelf.names, Names: the names, rising. -/
import Derived.Test.YticbfnflillokaaCopy
import Derived.Test.YticbfnflillokaaOps6
import Derived.Sort.OwnSorted
import Derived.Sort.KeysCollected
namespace Go.Proofs.Yticbfnflillokaa
open Go.RowKit Go.Maps Go.WideMaps Go.Sort
def Fs.names (F : Fs) : List Bs := F.map (·.1)
theorem Fs.mem_names (F : Fs) (k : Bs) : k ∈ F.names ↔ (F.get k).isSome = true := by
  induction F with
  | nil => simp [Fs.names, Fs.get]
  | cons p r ih =>
    obtain ⟨x, b⟩ := p
    unfold Fs.names at ih ⊢
    simp only [List.map_cons, List.mem_cons, Fs.get]
    split
    · rename_i h; simp [h]
    · rename_i h; simp only [h, false_or]; exact ih
theorem Fs.names_rise {F : Fs} (h : F.ok) : F.names.Pairwise fun a b => a < b := List.pairwise_map.2 h
theorem Fs.names_nodup {F : Fs} (h : F.ok) : F.names.Nodup := (Fs.names_rise h).imp fun {a b} hab e => by subst e; exact blt_irrefl _ hab
theorem names_sorted {F : Fs} (hF : F.ok) {ks : List Bs} (hn : ks.Nodup) (hm : ∀ k, k ∈ ks ↔ (F.get k).isSome = true) : (ks.mergeSort fun x y => decide (x ≤ y)) = F.names := by
  have hp : ks.Perm F.names := (List.perm_ext_iff_of_nodup hn (Fs.names_nodup hF)).2 fun k => by rw [hm, Fs.mem_names]
  have h1 : ks.mergeSort leB = F.names.mergeSort leB := mergeSort_of_perm hp
  have h2 : F.names.mergeSort leB = F.names := List.mergeSort_of_pairwise ((Fs.names_rise hF).imp fun {a b} hab => by
    simp only [leB, decide_eq_true_eq]
    exact List.le_of_lt hab)
  exact h1.trans h2
abbrev OwnStrs (base : Nat) (w : World) (v : Value) (ks : List Bs) : Prop := w.ownsRow base 9 1 v ks.length (ks.map encStr)
theorem info9 : (Try.prog.info? 9).map (fun i => (i.zero, i.size, i.bytes)) = some (some (.string ByteArray.empty), 1, 16) := by kernel_rfl
set_option maxRecDepth 100000 in
theorem wpList_append_str {w : World} {ops : Array Oper} {rest : List Oper} {o : Oper} {a : Act} {Q : Exit → Act → World → Prop} (hgd : o.guard = none) (s x : Operand)
    (ho : o.op = .call { callee := .builtin .append, args := #[s, x], argTypes := #[56, 56] }) (base : Nat) (v : Value) (ks : List Bs) (k : Bs) (hs : a.eval s = v) (hown : OwnStrs base w v ks) (ad : Addr) (cap : Nat) (hx : a.eval x = .slice (some ad) 1 cap) (hk : w.cell? ad = some (encStr k)) (hbase : base ≤ w.heap.size) (hsmall : ks.length ≤ 1000000)
    (h : ∀ v' w', OwnStrs base w' v' (ks ++ [k]) → w.grownBy w' v.ownBlock → wpList Try.prog ops Q rest (a.put o.dst v') w') : wpList Try.prog ops Q (o :: rest) a w := by
  obtain ⟨i0, hi, hz0, hz1, hz2⟩ := info_parts info9
  refine wpList_append_own w hgd s x 56 ho base 9 i0 (.string ByteArray.empty) 1 16 Try.underlying56 hi hz0 hz1 hz2 rfl (by decide) v ks.length _ hs hown ad 1 cap [encStr k] hx rfl (fun j u hj => ?_) (fun u hu => ?_) (by unfold maxLen; omega) (by omega) hbase fun v' w' h1 h2 _ => h v' w' (by unfold OwnStrs; rw [List.length_append, List.map_append]; exact h1) h2
  · cases j with
    | zero => simp at hj; subst hj; rw [show ad.add 0 = ad from by cases ad; rfl]; exact hk
    | succ j => simp at hj
  · simp at hu; subst hu; rfl
/-- names gathered: those that r has given -/
def Naming (w wr : World) (v : Value) (r bm n : Nat) (M : Bs → Option Sl) (cnt : Nat) : Prop :=
  ∃ L ks, RRange wr bm r n M L cnt ∧ OwnStrs w.heap.size wr v ks ∧ v.ownBlock ≠ some r ∧ ks.Nodup ∧ (∀ k, k ∈ ks ↔ ((M k).isSome && !L k) = true) ∧ ks.length + cnt ≤ n ∧ Below w.heap.size w wr ∧ w.heap.size ≤ r
theorem str_form {base : Nat} {w : World} {v : Value} {ks : List Bs} (h : OwnStrs base w v ks) : ∃ a cap, v = .slice a ks.length cap := by
  rcases h.2 with ⟨rfl, h0⟩ | ⟨g, cap, cur, rfl, _⟩
  · exact ⟨none, 0, by rw [h0]⟩
  · exact ⟨_, _, rfl⟩
set_option maxRecDepth 100000 in
set_option maxHeartbeats 1000000 in
theorem names_sh (p o bm n : Nat) (S : Nat → Prop) (F : Fs) (w : World) (hsh : ShP w p o bm F.total) (h : ShelfOf w S bm n F) (hn : n ≤ 1000000) :
    Calls Try.prog 64 #[.pointer (some ⟨p, o, none⟩)] w fun e w' => ∃ v, e = .returned v ∧ OwnStrs w.heap.size w' v F.names ∧ Below w.heap.size w w' := by
  obtain ⟨M, hM, hok, hbm, hS, h0, h1, h2⟩ := h
  have HM := Lib.hid hM
  have c0 := hsh.c0
  have HF : Hid ((∀ k, F.get k = none → M k = none) ∧ (∀ k l, F.get k = some l → ∃ s, M k = some s)) := ⟨h0, fun k l hl => by obtain ⟨_, s, hs, _⟩ := h1 k l hl; exact ⟨s, hs⟩⟩
  have hbl := hM.lt
  clear hM hsh h0 h1 h2 hS hbm
  go_enter Try.func64, Try.ntmps64
  go_wp2_with (at_range; refine wpList_range_files rfl _ rfl bm n M rfl HM.out ?_; intro w2 cnt2 hcnt2 hr2 hc2 hs2)
  have HR0 : Hid (Naming w w2 (.slice none 0 0) w.heap.size bm n M cnt2) :=
    ⟨_, [], hr2, World.ownsRow_nil _ _ _ _, by simp [Value.ownBlock], List.nodup_nil, fun k => by cases M k <;> simp, by simpa using hcnt2, hc2.below (B := w.heap.size) (Nat.le_refl _) fun _ h => h.elim, Nat.le_refl _⟩
  clear hr2 hc2 hs2 c0 hcnt2
  obtain ⟨r, hr⟩ : ∃ r, w.heap.size = r := ⟨_, rfl⟩
  have HRR := Lib.hid hr
  rw [hr] at HR0
  go_frame
  rw [hr]
  clear hr
  go_loopw [3, 4] (fun v _ wr => ∃ cnt, Hid (Naming w wr v r bm n M cnt)) (fun _ _ wr => wr.rangeLeft bm r)
  case atStart => exact ⟨cnt2, HR0.out⟩
  case round =>
    obtain ⟨cnt, HR⟩ := hrel
    clear HR0
    obtain ⟨L, ks, hr, hown, hne, hnd, hmem, hcount, hbw, hrl⟩ := HR.out
    obtain ⟨va, vc, rfl⟩ := str_form hown
    have hme := hr.left_eq
    have HALL : Hid (RRange wr bm r n M L cnt ∧ OwnStrs w.heap.size wr (.slice va ks.length vc) ks ∧ (Value.slice va ks.length vc).ownBlock ≠ some r ∧ ks.Nodup ∧ (∀ k, k ∈ ks ↔ ((M k).isSome && !L k) = true) ∧ ks.length + cnt ≤ n ∧ Below w.heap.size w wr) := ⟨hr, hown, hne, hnd, hmem, hcount, hbw⟩
    clear hr hown hne hnd hmem hcount hbw hrl HR
    go_wp2_with (at_next; refine wpList_next_files rfl _ rfl bm r n cnt M L rfl HALL.out.1 ?_ ?_)
    · intro hdone
      obtain ⟨hr, hown, hne, hnd, hmem, hcount, hbw⟩ := HALL.out
      have hsorted := names_sorted hok hnd fun k => by
        rw [hmem k, hdone k]
        cases hm : M k with
        | some s => obtain ⟨l, hl⟩ := get_of HF.out.1 hm; simp [hl]
        | none =>
          cases hf : F.get k with
          | none => rfl
          | some l => obtain ⟨s, hs⟩ := HF.out.2 k l hf; rw [hm] at hs; cases hs
      have hlen : ks.length = F.names.length := by rw [← hsorted, List.length_mergeSort]
      rcases hown.2 with ⟨hnil, hz⟩ | ⟨g, cap, cur, hv, hbase, hb, h1, h2, h3, h4⟩
      · injection hnil with e1 e2 e3
        subst e1 e3
        have HE : Hid (F.names = []) := List.eq_nil_of_length_eq_zero (by omega)
        have HB := Lib.hid hbw
        rw [e2]
        clear hr hown hne hnd hmem hcount hbw hsorted hlen hdone HALL e2 hz
        go_wp2_with (go_at_call 72; refine (Try.slices_Sort_string_none none 0 wr).mono ?_; rintro e w3 ⟨rfl, rfl⟩)
        go_ret
        exact ⟨_, rfl, by rw [HE.out]; exact World.ownsRow_nil _ _ _ _, HB.out⟩
      · injection hv with e1 e2 e3
        subst e1 e3
        have HC := Lib.hid (Try.slices_Sort_string g 0 vc ks wr (holds_of_block hb (by simpa using h4)) (lt_of_block hb) (by omega))
        have HK : Hid (∀ n' os, OwnStrs w.heap.size (grow (putRow encStr (Sort.ahead wr n') g 0 (ks.mergeSort fun x y => decide (x ≤ y)).toArray) os) (.slice (some ⟨g, 0, none⟩) ks.length vc) F.names ∧ Below w.heap.size w (grow (putRow encStr (Sort.ahead wr n') g 0 (ks.mergeSort fun x y => decide (x ≤ y)).toArray) os)) := fun n' os => by
          have h := ownsRow_sorted (n := n') (os := os) (ss := ks) (ts := ks.mergeSort fun x y => decide (x ≤ y)) (by simp) hbase hb h1 h2 h3
          have hg := grownBy_sorted (w := wr) (g := g) (n := n') (os := os) (ks.mergeSort fun x y => decide (x ≤ y)).toArray
          refine ⟨?_, hbw.grown hg hbw.size fun k hk => by cases hk; exact hbase⟩
          rw [hsorted] at h ⊢
          unfold OwnStrs
          rw [← hlen]
          exact h
        clear hr hown hne hnd hmem hcount hbw hsorted hlen hdone HALL hbase hb h1 h2 h3 h4 e2
        go_wp2_with (go_at_call 72; refine HC.out.mono ?_; rintro e w3 ⟨rfl, n3, os3, rfl⟩; have HD := Lib.hid (HK.out n3 os3))
        go_ret
        exact ⟨_, rfl, HD.out⟩
    · intro k ad len cap w3 cnt3 hLk hMk hr3 hlt3 hc3 hs3 hen
      obtain ⟨hr, hown, hne, hnd, hmem, hcount, hbw⟩ := HALL.out
      have hbw3 : Below w.heap.size w w3 := hbw.trans (hc3.below (B := w.heap.size) hbw.size fun i hi => by have := HRR.out; omega)
      have hgr : r < wr.heap.size := hr.lt
      have hown3 : OwnStrs w.heap.size w3 (.slice va ks.length vc) ks := by
        refine ⟨hown.1, hown.2.imp id ?_⟩
        rintro ⟨g, cap, cur, hv, hbase, hb, rest⟩
        exact ⟨g, cap, cur, hv, hbase, hc3.heap hb fun e => hne (by rw [hv]; simp [Value.ownBlock, e]), rest⟩
      have hkn : k ∉ ks := fun hin => by have := (hmem k).1 hin; rw [hLk] at this; simp at this
      have HOA : Hid (∀ o1, OwnStrs w.heap.size (w3.alloc o1) (.slice va ks.length vc) ks ∧ w.heap.size ≤ (w3.alloc o1).heap.size) := fun o1 => ⟨World.ownsRow.alloc hown3 o1, by rw [World.size_alloc]; have := hbw3.size; omega⟩
      have HCELL : Hid (∀ t, (w3.alloc (.cells #[.string ⟨k.toArray⟩] t)).cell? ⟨w3.heap.size, 0, none⟩ = some (encStr k)) := fun t => by rw [World.cell?_alloc_new]; rfl
      have HSZ : Hid (ks.length ≤ 1000000) := by show ks.length ≤ 1000000; omega
      have HK : Hid (∀ o1 v4 w4, OwnStrs w.heap.size w4 v4 (ks ++ [k]) → (w3.alloc o1).grownBy w4 (Value.slice va ks.length vc).ownBlock → Naming w w4 v4 r bm n M cnt3) := by
        intro o1 v4 w4 h4 hg4
        have hcA : Chg (fun i => (Value.slice va ks.length vc).ownBlock = some i) w3 w4 := ((Chg.refl _ w3).alloc o1).grown hg4 fun i hi => .inl hi
        have hnb : ¬ (Value.slice va ks.length vc).ownBlock = some bm := fun e => by
          rcases hown.2 with ⟨hv, _⟩ | ⟨g, cap, cur, hv, hbase, _⟩
          · rw [hv] at e; cases e
          · rw [hv] at e
            have : g = bm := by simpa [Value.ownBlock] using e
            omega
        have hlow : ∀ i, (Value.slice va ks.length vc).ownBlock = some i → w.heap.size ≤ i := fun i hi => (World.ownsRow.lt hown i hi).1
        refine ⟨fun x => L x && !decide (x = k), ks ++ [k], hr3.chg hcA hnb hne, h4, ?_, ?_, fun x => ?_, by simp; omega, hbw3.trans (hcA.below (B := w.heap.size) hbw3.size hlow), by have := HRR.out; omega⟩
        · exact fun e => (row_ne_iter h4 (hr3.chg hcA hnb hne).choose_spec.choose_spec.2.1) e.symm
        · exact List.nodup_append.2 ⟨hnd, by simp, fun a ha b hb => by simp at hb; subst hb; exact fun e => hkn (e ▸ ha)⟩
        · rw [List.mem_append, hmem x]
          by_cases e : x = k
          · subst e; simp [hMk]
          · simp [e]
      clear hr hown hne hnd hmem hcount hbw HALL hr3 hc3 hbw3 hown3 hkn hMk hLk hs3 hgr
      go_wp2_with (at_builtin; refine wpList_append_str rfl _ _ rfl w.heap.size _ ks k rfl (HOA.out _).1 ⟨w3.heap.size, 0, none⟩ _ rfl (HCELL.out _) (HOA.out _).2 HSZ.out ?_; intro v4 w4 h4 hg4; have HD := Lib.hid (HK.out _ v4 w4 h4 hg4); clear h4 hg4)
      go_roundw
      case rel => exact ⟨cnt3, HD.out⟩
      case measure =>
        obtain ⟨_, _, hr5, _⟩ := HD.out
        rw [hr5.left_eq, hme]; exact hlt3
/-- what Names leaves -/
def GivesStrs (w : World) (ks : List Bs) (e : Ending) (w' : World) : Prop := ∃ v, e = .returned v ∧ OwnStrs w.heap.size w' v ks ∧ Below w.heap.size w w'
set_option maxRecDepth 100000 in
theorem names_any {w : World} {O I : Nat → Prop} {p N : Nat} {d : Dk} (h : DiskAt w O I p N d) (hN : N ≤ 400000) :
    Calls Try.prog 26 #[.pointer (some ⟨p, 0, none⟩)] w (GivesStrs w (if d.down then [] else d.seen.names)) := by
  obtain ⟨n1, n2, hr, hok, hn1, hn2, _⟩ := h
  obtain ⟨m1, m2, wv, vs, S1, S2, hp⟩ := hr
  have HD := Lib.hid (down_yes p d.down w hp.raw.c8 hp.raw.c4)
  have HS := Lib.hid (names_sh p 5 m2 n2 S2 d.seen w ⟨_, _, hp.block, rfl, rfl⟩ hp.two (by omega))
  obtain ⟨b, hb⟩ : ∃ b, d.down = b := ⟨_, rfl⟩
  rw [hb] at HD ⊢
  clear hb hp hok hn1 hn2
  cases b
  · rw [if_neg (by simp)]
    go_enter Try.func26, Try.ntmps26
    go_wp2_with (first | (go_at_call 31; refine HD.out.mono ?_; rintro e w1 ⟨rfl, rfl⟩) | (go_at_call 64; refine HS.out.mono ?_; rintro e w2 ⟨v, rfl, ho, hb⟩; have HR := Lib.hid (And.intro ho hb); clear ho hb))
    go_ret
    exact ⟨_, rfl, HR.out⟩
  · rw [if_pos rfl]
    go_enter Try.func26, Try.ntmps26
    go_wp2_with (go_at_call 31; refine HD.out.mono ?_; rintro e w1 ⟨rfl, rfl⟩)
    go_ret
    exact ⟨_, rfl, World.ownsRow_nil _ _ _ _, Below.refl _ _⟩
end Go.Proofs.Yticbfnflillokaa
