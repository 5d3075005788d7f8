/- A swap of files, in plain mathematics. -/
import Derived.Test.YticbfnflillokaaOps8
namespace Go.Proofs.Yticbfnflillokaa
def xOld : Bs := [120, 46, 111, 108, 100]
def xNew : Bs := [120, 46, 110, 101, 119]
theorem xOld_name : isName xOld = true := by decide +kernel
theorem xNew_name : isName xNew = true := by decide +kernel
theorem xNew_ne : xNew ≠ xOld := by decide +kernel
theorem refuse_up {d : Dk} (h : d.down = false) {ns : List Bs} (hn : ns.all isName = true) : refuse d ns = 0 := by simp [refuse, h, hn]
theorem Dk.start_up (d : Dk) : d.start.2.down = false := by
  unfold Dk.start
  split
  · rfl
  · rename_i h; simpa using h
theorem lack_up {d : Dk} (h : d.down = false) {n : Bs} (hn : isName n = true) {ns : List Bs} (hs : ns.all isName = true) : lack d n ns = if (d.seen.get n).isSome = true then 0 else 4 := by
  unfold lack
  rw [if_pos (refuse_up h (by simp [hn]; simpa using hs))]
theorem putF_ok {d : Dk} (h : d.down = false) {k l : Bs} (hk : isName k = true) (h0 : (d.putF k l).1 = 0) : (d.putF k l).2 = d.add (.put k l) := by
  unfold Dk.putF at h0 ⊢
  rw [if_neg (by rw [refuse_up h (by simp [hk])]; simp)] at h0 ⊢
  split at h0
  · simp at h0
  · rename_i h1; rw [if_neg h1]
def sw3 (d : Dk) (old : Bs) : Dk := (d.putF xOld old).2.sync.2
def sw4 (d : Dk) (old fresh : Bs) : Dk := ((sw3 d old).putF xNew fresh).2
def sw5 (d : Dk) (old fresh : Bs) : Dk := ((sw4 d old fresh).rename xNew xOld).2
def sw6 (d : Dk) (old fresh : Bs) (keep torn : Int) : Dk := ((sw5 d old fresh).crash keep torn).2
def sw7 (d : Dk) (old fresh : Bs) (keep torn : Int) : Dk := (sw6 d old fresh keep torn).start.2
theorem sw_sync {d : Dk} (h : d.down = false) {old : Bs} (h2 : (d.putF xOld old).1 = 0) : (d.putF xOld old).2.sync.1 = 0 ∧ sw3 d old = { d with synced := d.seen.put xOld old, seen := d.seen.put xOld old, waits := [] } := by
  unfold sw3
  rw [putF_ok h xOld_name h2]
  have hd : (d.add (.put xOld old)).down = false := h
  constructor
  · simp [Dk.sync, hd]
  · simp only [Dk.sync, hd, Bool.false_eq_true, if_false]
    rw [h]
    rfl
theorem sw_four {d : Dk} (h : d.down = false) {old fresh : Bs} (h2 : (d.putF xOld old).1 = 0) (h4 : ((sw3 d old).putF xNew fresh).1 = 0) :
    sw4 d old fresh = { d with synced := d.seen.put xOld old, seen := (d.seen.put xOld old).put xNew fresh, waits := [.put xNew fresh] } := by
  unfold sw4
  rw [putF_ok (by rw [(sw_sync h h2).2]; exact h) xNew_name h4, (sw_sync h h2).2]
  rfl
theorem sw_five {d : Dk} (h : d.down = false) {old fresh : Bs} (h2 : (d.putF xOld old).1 = 0) (h4 : ((sw3 d old).putF xNew fresh).1 = 0) :
    ((sw4 d old fresh).rename xNew xOld).1 = 0 ∧ (sw5 d old fresh).down = false ∧ (sw5 d old fresh).waits = [.put xNew fresh, .ren xNew xOld] ∧ (sw5 d old fresh).synced = d.seen.put xOld old := by
  have h0 : lack (sw4 d old fresh) xNew [xOld] = 0 := by
    rw [lack_up (by rw [sw_four h h2 h4]; exact h) xNew_name (by decide +kernel), if_pos]
    rw [sw_four h h2 h4]
    simp [Fs.get_put_same]
  unfold sw5
  unfold Dk.rename
  rw [if_neg (by simp [h0]), if_neg xNew_ne, sw_four h h2 h4]
  exact ⟨rfl, h, rfl, rfl⟩
theorem sw_crash {d : Dk} (h : d.down = false) {old fresh : Bs} (h2 : (d.putF xOld old).1 = 0) (h4 : ((sw3 d old).putF xNew fresh).1 = 0) (keep torn : Int) :
    ((sw5 d old fresh).crash keep torn).1 = 0 ∧ (sw6 d old fresh keep torn).start.1 = 0 ∧ (sw7 d old fresh keep torn).down = false ∧ (sw7 d old fresh keep torn).seen = (sw5 d old fresh).left keep torn := by
  obtain ⟨_, h5, _⟩ := sw_five h h2 h4
  have e : (sw5 d old fresh).crash keep torn = (0, { sw5 d old fresh with synced := (sw5 d old fresh).left keep torn, seen := (sw5 d old fresh).left keep torn, waits := [], down := true }) := by
    unfold Dk.crash; rw [h5]; rfl
  unfold sw7 sw6
  rw [e]
  exact ⟨rfl, rfl, rfl, rfl⟩
theorem sw_left {d : Dk} (h : d.down = false) {old fresh : Bs} (h1 : d.seen.get xNew = none) (h2 : (d.putF xOld old).1 = 0) (h4 : ((sw3 d old).putF xNew fresh).1 = 0) (keep torn : Int) :
    ((sw5 d old fresh).left keep torn).get xOld = some (if 2 ≤ keep then fresh else old) ∧ (((sw5 d old fresh).left keep torn).get xNew).isSome = decide (keep = 1) := by
  obtain ⟨_, _, h6, h7⟩ := sw_five h h2 h4
  have hk : (sw5 d old fresh).keeps keep = if keep ≤ 0 then 0 else if keep = 1 then 1 else 2 := by
    unfold Dk.keeps
    rw [h6]
    simp only [List.length_cons, List.length_nil]
    split
    · omega
    · split <;> omega
  unfold Dk.left
  rw [hk, h6, h7]
  have hno : xOld ≠ xNew := Ne.symm xNew_ne
  by_cases k0 : keep ≤ 0
  · rw [if_pos k0, if_neg (show ¬ 2 ≤ keep by omega)]
    simp [Ch.tear, doAll, Fs.get_put, xNew_ne, h1]
    omega
  · rw [if_neg k0]
    by_cases k1 : keep = 1
    · rw [if_pos k1, if_neg (show ¬ 2 ≤ keep by omega)]
      simp [Ch.tear, doAll, Ch.do, Fs.get_put, hno, k1]
    · rw [if_neg k1, if_pos (show 2 ≤ keep by omega)]
      simp [doAll, Ch.do, Fs.get_put, Fs.get_del, hno, k1]
/-- what is read behind it -/
theorem sw_end {d : Dk} (h : d.down = false) {old fresh : Bs} (h1 : lack d xNew [] ≠ 0) (h2 : (d.putF xOld old).1 = 0) (h4 : ((sw3 d old).putF xNew fresh).1 = 0) (keep torn : Int) :
    lack (sw7 d old fresh keep torn) xOld [] = 0 ∧ ((sw7 d old fresh keep torn).seen.get xOld).getD [] = (if 2 ≤ keep then fresh else old) ∧ lack (sw7 d old fresh keep torn) xNew [] = if keep = 1 then 0 else 4 := by
  have hg : d.seen.get xNew = none := by
    rw [lack_up h xNew_name rfl] at h1
    cases hq : d.seen.get xNew with
    | none => rfl
    | some _ => rw [hq] at h1; simp at h1
  obtain ⟨_, _, c3, c4⟩ := sw_crash h h2 h4 keep torn
  obtain ⟨l1, l2⟩ := sw_left h hg h2 h4 keep torn
  rw [lack_up c3 xOld_name rfl, lack_up c3 xNew_name rfl, c4, l1, l2]
  refine ⟨rfl, rfl, ?_⟩
  by_cases k1 : keep = 1 <;> simp [k1]
end Go.Proofs.Yticbfnflillokaa
