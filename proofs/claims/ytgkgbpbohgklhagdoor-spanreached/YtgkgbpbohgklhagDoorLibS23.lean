/-
  Plain facts on formulas as bits: which hold, which are left, which are enough (chapter 13). No program is read here.
  Proved: one number more, appended to a row of one's own that may grow long (a law that the walks of chapter 13's program lean on).
  Proved: what core.bit, all, isOpen, places, check and holding return; what was in memory is as it was (contracts that the statements of chapter 13 lean on).
  Proved: what core.check and core.holding return; what was in memory is as it was (contracts that the statements of chapter 13 lean on).
-/
import Derived.Test.YtgkgbpbohgklhagDoorLibS22
import Derived.Test.YtgkgbpbohgklhagDoorLibS2
import Derived.Maps.AppendAt
import Derived.Deep.AppendLies
import Derived.Test.YtgkgbpbohgklhagDoorLibS8
import Derived.Test.YtgkgbpbohgklhagDoorLibS19
import Derived.Test.YtgkgbpbohgklhagDoorLibS11
import Derived.Test.YtgkgbpbohgklhagDoorLibS4
import Derived.Shelf.Abstract
import Derived.Deep.LoopGhost
import Derived.Deep.CutRange
import Derived.Deep.RegionWith
import Derived.OwnWalk
namespace Go.Proofs.YtgkgbpbohgklhagDoor
open Go.RowKit

theorem or64 : ∀ k : Nat, k < 6 → ∀ m : Nat, m < 2 ^ k → bits .or .i64 (m : Int) (pw k) = (m : Int) + pw k := by decide +kernel
theorem and64 : ∀ n : Nat, n < 64 → ∀ m : Nat, m < 64 → bits .and .i64 (n : Int) (m : Int) = ((n &&& m : Nat) : Int) := by decide +kernel
theorem less64 : ∀ n : Nat, n < 64 → ∀ m : Nat, m < 64 → bits .andNot .i64 (n : Int) (m : Int) = ((n &&& (63 ^^^ m) : Nat) : Int) := by decide +kernel
theorem pw_nat (k : Nat) : pw k = ((2 ^ k : Nat) : Int) := by unfold pw; simp
theorem two_le {n : Nat} (h : n ≤ 6) : 2 ^ n ≤ 64 := Nat.le_trans (Nat.pow_le_pow_right (by decide) h : 2 ^ n ≤ 2 ^ 6) (by decide)

/-- bits, place by place. -/
theorem bits_at (L : Nat → Bool) {n : Nat} (hn : n ≤ 6) : ∃ m : Nat, maskTo L n = (m : Int) ∧ m < 64 ∧ ∀ f, m.testBit f = (decide (f < n) && L f) := by
  obtain ⟨m0, m1⟩ := maskTo_le L n
  obtain ⟨m, hm⟩ := Int.eq_ofNat_of_zero_le m0
  have hlt : m < 2 ^ n := by rw [hm, pw_nat] at m1; omega
  have h64 := two_le hn
  refine ⟨m, hm, by omega, fun f => ?_⟩
  by_cases hf : f < n
  · have h := has_mask L (show n ≤ 8 by omega) hf
    rw [hm] at h
    rw [decide_eq_true hf, Bool.true_and, ← h, Nat.testBit_eq_decide_div_mod_eq]
    unfold hasB
    apply decide_eq_decide.2
    have e : ((m : Int) / 2 ^ ((f : Int)).toNat % 2) = ((m / 2 ^ f % 2 : Nat) : Int) := by simp
    rw [e]
    omega
  · rw [decide_eq_false hf, Bool.false_and]
    exact Nat.testBit_lt_two_pow (Nat.lt_of_lt_of_le hlt (Nat.pow_le_pow_right (by decide) (Nat.le_of_not_lt hf)))
theorem mask_congr {L M : Nat → Bool} : ∀ n, (∀ k, k < n → L k = M k) → maskTo L n = maskTo M n := by
  intro n
  induction n with
  | zero => intro _; rfl
  | succ n ih =>
    intro h
    unfold maskTo
    rw [ih fun k hk => h k (by omega), h n (by omega)]
/-- all of them. -/
theorem mask_all : ∀ n, pw n - 1 = maskTo (fun _ => true) n := by
  intro n
  induction n with
  | zero => rfl
  | succ n ih =>
    have e : pw (n + 1) = pw n + pw n := by rw [pw_nat, pw_nat, Nat.pow_succ]; omega
    unfold maskTo
    rw [← ih, e]
    show _ = _ + 1 * pw n
    omega
/-- one more that holds. -/
theorem mask_or (L : Nat → Bool) {k : Nat} (hk : k < 6) (h : L k = true) : bits .or .i64 (maskTo L k) (pw k) = maskTo L (k + 1) := by
  obtain ⟨m0, m1⟩ := maskTo_le L k
  obtain ⟨m, hm⟩ := Int.eq_ofNat_of_zero_le m0
  have hlt : m < 2 ^ k := by rw [hm, pw_nat] at m1; omega
  show _ = maskTo L k + oneB (L k) * pw k
  rw [hm, or64 k hk m hlt, h]
  show _ = _ + 1 * pw k
  omega
theorem mask_not (L : Nat → Bool) {k : Nat} (h : L k = false) : maskTo L (k + 1) = maskTo L k := by
  show maskTo L k + oneB (L k) * pw k = _
  rw [h]
  show _ + 0 * pw k = _
  omega
/-- without one. -/
theorem mask_less (g : Nat → Bool) {n i : Nat} (hn : n ≤ 6) (hi : i < n) : bits .andNot .i64 (maskTo (fun k => !g k) n) (pw i) = maskTo (fun k => !putG g i true k) n := by
  obtain ⟨m, hm, h64, hb⟩ := bits_at (fun k => !g k) hn
  obtain ⟨q, hq, _, hc⟩ := bits_at (fun k => !putG g i true k) hn
  have hp : 2 ^ i < 64 := Nat.lt_of_lt_of_le (Nat.pow_lt_pow_right (by decide) hi : 2 ^ i < 2 ^ n) (two_le hn)
  rw [hm, hq, pw_nat, less64 m h64 _ hp]
  have e : m &&& (63 ^^^ 2 ^ i) = q := Nat.eq_of_testBit_eq fun f => by
    have h63 : Nat.testBit 63 f = decide (f < 6) := Nat.testBit_two_pow_sub_one 6 f
    rw [Nat.testBit_and, Nat.testBit_xor, hb, hc, h63, Nat.testBit_two_pow]
    by_cases hf : f < n
    · rw [decide_eq_true hf, decide_eq_true (show f < 6 by omega)]
      by_cases hfi : i = f
      · subst hfi; rw [decide_eq_true rfl, putG_same]; simp
      · rw [decide_eq_false hfi, putG_other _ _ (fun e => hfi e.symm)]; simp
    · rw [decide_eq_false hf]; simp
  rw [e]
/-- is one among them? -/
theorem mask_has (L : Nat → Bool) {n i : Nat} (hn : n ≤ 6) (hi : i < n) : (bits .and .i64 (maskTo L n) (pw i) = 0) ↔ L i = false := by
  obtain ⟨m, hm, h64, hb⟩ := bits_at L hn
  have hp : 2 ^ i < 64 := Nat.lt_of_lt_of_le (Nat.pow_lt_pow_right (by decide) hi : 2 ^ i < 2 ^ n) (two_le hn)
  rw [hm, pw_nat, and64 m h64 _ hp]
  have e : (((m &&& 2 ^ i : Nat) : Int) = 0) ↔ (m &&& 2 ^ i) = 0 := by omega
  rw [e]
  constructor
  · intro h
    have := congrArg (fun x => Nat.testBit x i) h
    simp only [Nat.testBit_and, hb, Nat.testBit_two_pow, Nat.zero_testBit, decide_eq_true hi, Bool.true_and] at this
    simpa using this
  · intro h
    refine Nat.eq_of_testBit_eq fun f => ?_
    rw [Nat.testBit_and, hb, Nat.testBit_two_pow, Nat.zero_testBit]
    by_cases hfi : i = f
    · subst hfi; rw [h]; simp
    · rw [decide_eq_false hfi]; simp
/-- are all of some among them? -/
theorem mask_in (H L : Nat → Bool) {n : Nat} (hn : n ≤ 6) : (bits .and .i64 (maskTo H n) (maskTo L n) = maskTo L n) ↔ ∀ j, j < n → L j = true → H j = true := by
  obtain ⟨m, hm, hm64, hb⟩ := bits_at H hn
  obtain ⟨q, hq, hq64, hc⟩ := bits_at L hn
  rw [hm, hq, and64 m hm64 q hq64]
  have e : (((m &&& q : Nat) : Int) = (q : Int)) ↔ (m &&& q) = q := by omega
  rw [e]
  constructor
  · intro h j hj hl
    have := congrArg (fun x => Nat.testBit x j) h
    simp only [Nat.testBit_and, hb, hc, decide_eq_true hj, hl, Bool.true_and, Bool.and_true] at this
    exact this
  · intro h
    refine Nat.eq_of_testBit_eq fun f => ?_
    rw [Nat.testBit_and, hb, hc]
    by_cases hf : f < n
    · rw [decide_eq_true hf]
      cases hl : L f
      · simp
      · rw [h f hf hl]; rfl
    · rw [decide_eq_false hf]; simp

/-- does the j-th hold there? -/
def holdsAt (fs : List Fm) (D : Wd) (j : Nat) : Bool := match fs[j]? with | some f => D.formIs f.ats f.c | none => false
theorem holds_at {fs : List Fm} {D : Wd} {j : Nat} {f : Fm} (h : fs[j]? = some f) : holdsAt fs D j = D.formIs f.ats f.c := by unfold holdsAt; rw [h]
/-- world by world, which hold there. -/
def heldL (fs : List Fm) (u : Nat) : List Int := (everyC u).map fun N => maskTo (holdsAt fs (madeN N 8)) fs.length
theorem heldL_length (fs : List Fm) (u : Nat) : (heldL fs u).length = (everyC u).length := by unfold heldL; rw [List.length_map]
/-- all of those that are not gone hold in one of the worlds, just if they are open. -/
theorem held_open {fs : List Fm} (h6 : fs.length ≤ 6) (u : Nat) (g : Nat → Bool) : ((heldL fs u).any fun h => decide (bits .and .i64 h (maskTo (fun k => !g k) fs.length) = maskTo (fun k => !g k) fs.length)) = openN (leftF fs g) u := by
  unfold heldL openN
  rw [List.any_map]
  congr 1
  funext N
  rw [Bool.eq_iff_iff]
  show decide _ = true ↔ _
  rw [decide_eq_true_iff, mask_in _ _ h6]
  unfold Wd.so
  rw [List.all_eq_true]
  constructor
  · intro h f hf
    obtain ⟨j, h1, h2, h3⟩ := (leftTo_mem fs.length (Nat.le_refl _)).1 hf
    have := h j h1 (by rw [h2]; rfl)
    rw [holds_at h3] at this
    exact this
  · intro h j hj hl
    have hf := List.getElem?_eq_getElem hj
    rw [holds_at hf]
    exact h _ ((leftTo_mem fs.length (Nat.le_refl _)).2 ⟨j, hj, by simpa using hl, hf⟩)
theorem left_all (fs : List Fm) (u : Nat) : openN (leftF fs fun _ => false) u = openN fs u := by
  rw [Bool.eq_iff_iff]
  constructor
  · exact open_less fun f hf => by
      obtain ⟨j, hj⟩ := List.mem_iff_getElem?.1 hf
      exact (leftTo_mem fs.length (Nat.le_refl _)).2 ⟨j, (List.getElem?_eq_some_iff.1 hj).1, rfl, hj⟩
  · exact open_less fun f hf => by
      obtain ⟨j, _, _, h3⟩ := (leftTo_mem fs.length (Nat.le_refl _)).1 hf
      exact List.mem_of_getElem? h3

/-- the places that bits stand for, of the first k. -/
def placesTo (L : Nat → Bool) : Nat → List Int
  | 0 => []
  | k + 1 => placesTo L k ++ (if L k = true then [(k : Int)] else [])
theorem placesTo_length (L : Nat → Bool) : ∀ k, (placesTo L k).length ≤ k := by
  intro k
  induction k with
  | zero => exact Nat.le_refl _
  | succ k ih =>
    unfold placesTo
    split
    · simp; omega
    · simp; omega
theorem places_core {fs : List Fm} {u n : Nat} : ∀ i, i ≤ n → placesTo (fun k => !goneTo fs u n k) i = coreTo fs u i := by
  intro i
  induction i with
  | zero => intro _; rfl
  | succ i ih =>
    intro hi
    have hk := goneTo_keep fs u (n - (i + 1)) (i + 1) i (by omega)
    rw [show i + 1 + (n - (i + 1)) = n by omega] at hk
    unfold placesTo
    rw [ih (by omega), coreTo_succ, hk, goneTo_succ]
    cases openN (leftF fs (putG (goneTo fs u i) i true)) u
    · simp [putG_same]
    · simp [putG_same]
/-- one step. -/
theorem left_step {fs : List Fm} {u n i : Nat} : (openN (leftF fs (putG (goneTo fs u i) i true)) u = true → maskTo (fun k => !goneTo fs u (i + 1) k) n = maskTo (fun k => !goneTo fs u i k) n) ∧ (openN (leftF fs (putG (goneTo fs u i) i true)) u = false → maskTo (fun k => !goneTo fs u (i + 1) k) n = maskTo (fun k => !putG (goneTo fs u i) i true k) n) := by
  refine ⟨fun h => mask_congr n fun k _ => ?_, fun h => mask_congr n fun k _ => ?_⟩
  · rw [goneTo_succ, if_pos h]
    by_cases hk : k = i
    · rw [hk, putG_same, goneTo_far fs u i i (Nat.le_refl _)]
    · rw [putG_other _ _ hk]
  · rw [goneTo_succ, if_neg (by rw [h]; decide)]
end Go.Proofs.YtgkgbpbohgklhagDoor

namespace Go.Proofs.YtgkgbpbohgklhagDoor
open Go.ChangeShapes Go.WideShapes Go.ChangeAt Go.RowKit
set_option maxRecDepth 100000

theorem infoH : (Tryd.prog.info? 3).isSome = true := by kernel_rfl
theorem zeroH : (Tryd.prog.info? 3).bind (·.zero) = some (.int .i64 0) := by kernel_rfl
theorem sizeH : (Tryd.prog.info? 3).map (·.size) = some 1 := by kernel_rfl
theorem bytesH : (Tryd.prog.info? 3).map (·.bytes) = some 8 := by kernel_rfl
/-- one number more, out of a block of its own. -/
theorem append_long {w : World} {ops : Array Oper} {rest : List Oper} {o : Oper} {a : Act} {Q : Exit → Act → World → Prop} (hgd : o.guard = none) (s x : Operand)
    (ho : o.op = .call { callee := .builtin .append, args := #[s, x], argTypes := #[30, 30] }) (K : Nat) (v : Value) (hs : a.eval s = v) (l : List Int) (r : Int) (B c : Nat) (hx : a.eval x = .slice (some ⟨B, 0, none⟩) 1 c)
    (hown : w.ownsRow K 3 1 v l.length (l.map (Value.int .i64))) (hB : w.heap[B]? = some (.cells #[.int .i64 r] 3 (0, 0))) (hK : K ≤ w.heap.size) (h12 : l.length ≤ 1000000)
    (h : ∀ v' w', w'.ownsRow K 3 1 v' (l.length + 1) ((l ++ [r]).map (Value.int .i64)) → w.grownBy w' v.ownBlock → (v'.ownBlock = v.ownBlock ∨ v'.ownBlock = some w.heap.size) → wpList Tryd.prog ops Q rest (a.put o.dst v') w') :
    wpList Tryd.prog ops Q (o :: rest) a w := by
  obtain ⟨i1, hi⟩ : ∃ i, Tryd.prog.info? 3 = some i := Option.isSome_iff_exists.1 infoH
  have hz0 : i1.zero = some (.int .i64 0) := by have := zeroH; rw [hi] at this; simpa using this
  have hz1 : i1.size = 1 := by have := sizeH; rw [hi] at this; simpa using this
  have hz2 : i1.bytes = 8 := by have := bytesH; rw [hi] at this; simpa using this
  refine wpList_append_own_at w hgd s x 30 ho K 3 i1 _ 1 8 Tryd.underlying30 hi hz0 hz1 hz2 rfl (by decide) v l.length (l.map (Value.int .i64)) hs hown ⟨B, 0, none⟩ 1 c [.int .i64 r] hx rfl (World.news_of_block hB) (by simp [Value.oneCell']) (by unfold maxLen; omega) (by omega) hK ?_
  intro v' w' h1 h2 _ h5
  refine h v' w' ?_ h2 h5
  rw [List.map_append]
  exact h1
theorem own_readsL {w : World} {K : Nat} {v : Value} {t : List Int} (h : w.ownsRow K 3 1 v t.length (t.map (Value.int .i64))) (hm : t.length ≤ 9223372036854775807) : Reads w v t := by
  rcases h.2 with ⟨rfl, h0⟩ | ⟨g, cap, cur, rfl, hb, hg, hc, _⟩
  · exact Or.inl ⟨none, 0, rfl, List.eq_nil_of_length_eq_zero h0⟩
  · rcases Nat.eq_zero_or_pos t.length with h0 | h0
    · have e : t = [] := List.eq_nil_of_length_eq_zero h0
      subst e
      exact Or.inl ⟨_, _, rfl, rfl⟩
    · refine Or.inr ⟨g, 0, cap, rfl, (Array.getElem?_eq_some_iff.1 hg).1, h0, ⟨hm, hc⟩, fun k hk => ?_⟩
      rw [Nat.zero_add, h.cellAt _ (by omega), List.getElem?_map, List.getElem?_eq_getElem hk, List.getD_eq_getElem?_getD, List.getElem?_eq_getElem hk]
      rfl
end Go.Proofs.YtgkgbpbohgklhagDoor

namespace Go.Proofs.YtgkgbpbohgklhagDoor
open Go.ChangeShapes Go.WideShapes Go.ChangeAt Go.RowKit
set_option maxRecDepth 100000

theorem shl_pw : ∀ k : Nat, k ≤ 6 → wrap64 (1 * 2 ^ k) = pw k := by decide +kernel
theorem coreBit_any (k : Nat) (hk : k ≤ 6) (w : World) : Calls Tryd.prog 29 #[.int .i64 k] w fun e w' => e = .returned (.int .i64 (pw k)) ∧ w = w' := by
  have HS : Hid (wrap64 (1 * 2 ^ k) = pw k) := shl_pw k hk
  go_enter Tryd.func29, Tryd.ntmps29
  go_wp2
  go_ret
  exact ⟨by have := HS.out; simp at this ⊢; exact this, rfl⟩
theorem coreAll_any (lo : Option Addr) (n cap : Nat) (hn : n ≤ 6) (w : World) : Calls Tryd.prog 27 #[.slice lo n cap] w fun e w' => e = .returned (.int .i64 (maskTo (fun _ => true) n)) ∧ w = w' := by
  have HS : Hid (wrap64 (pw n - 1) = maskTo (fun _ => true) n) := by
    unfold Hid
    rw [mask_all]
    obtain ⟨m, hm, h64, _⟩ := bits_at (fun _ => true) hn
    rw [hm]; unfold wrap64; omega
  go_enter Tryd.func27, Tryd.ntmps27
  go_wp2_with fail
  go_at_call 29
  refine (coreBit_any n hn _).mono ?_
  rintro e w' ⟨rfl, rfl⟩
  go_wp2
  go_ret
  exact ⟨by first | (rw [HS.out]; done) | (rw [HS.out]; rfl), rfl⟩

theorem isOpenIn_any (h s : Int) (P : Nat) (w : World) (hP : w.cell? ⟨P, 0, none⟩ = some (.int .i64 s)) :
    Calls Tryd.prog 53 #[.int .i64 h, .pointer (some ⟨P, 0, none⟩)] w fun e w' => e = .returned (.bool (decide (bits .and .i64 h s = s))) ∧ Below w.heap.size w w' := by
  go_enter Tryd.func53, Tryd.ntmps53
  go_wp2
  go_ret
  exact ⟨by first | rfl | simp, Below.refl _ _⟩

set_option maxHeartbeats 2000000 in
theorem coreIdx (n b off cap P : Nat) (us : Nat → Int) (s : Int) (w : World) (hl : n ≤ 9223372036854775807) (hB : b < w.heap.size) (hc : ∀ k, k < n → w.cell? ⟨b, off + k, none⟩ = some (.int .i64 (us k))) (hP : w.cell? ⟨P, 0, none⟩ = some (.int .i64 s)) :
    Calls Tryd.prog 62 #[.slice (some ⟨b, off, none⟩) n cap, .func (.func 53) #[] #[.pointer (some ⟨P, 0, none⟩)]] w fun e w' => (∃ r : Int, e = .returned (.int .i64 r) ∧ (0 ≤ r ↔ ∃ k, k < n ∧ decide (bits .and .i64 (us k) s = s) = true)) ∧ Below w.heap.size w w' := by
  have HC : Hid (∀ W k, Below w.heap.size w W → k < n → W.cell? ⟨b, off + k, none⟩ = some (.int .i64 (us k))) := fun W k hW hk => by rw [hW.cell (show (⟨b, off + k, none⟩ : Addr).block < w.heap.size from hB)]; exact hc k hk
  have HP : Hid (∀ W k, Below w.heap.size w W → k < n → Calls Tryd.prog 53 #[.int .i64 (us k), .pointer (some ⟨P, 0, none⟩)] W fun e w' => e = .returned (.bool (decide (bits .and .i64 (us k) s = s))) ∧ Below W.heap.size W w') := fun W k hW _ => isOpenIn_any (us k) s P W (by rw [hW.cell (World.block_lt_of_cell? _ _ hP)]; exact hP)
  obtain ⟨p, hp⟩ : ∃ p : Nat → Bool, p = fun k => decide (bits .and .i64 (us k) s = s) := ⟨_, rfl⟩
  have HP : Hid (∀ W k, Below w.heap.size w W → k < n → Calls Tryd.prog 53 #[.int .i64 (us k), .pointer (some ⟨P, 0, none⟩)] W fun e w' => e = .returned (.bool (p k)) ∧ Below W.heap.size W w') := by rw [hp]; exact HP
  have hg : ∀ k, decide (bits .and .i64 (us k) s = s) = p k := fun k => by rw [hp]
  simp only [hg]
  clear hc hB hP hp hg
  go_enter Tryd.func62, Tryd.ntmps62
  go_wp2
  go_loopw [5, 8] (fun _ i wr => ∃ k : Nat, k ≤ n ∧ i = .int .i64 k ∧ Below w.heap.size w wr ∧ Hid (∀ j, j < k → p j = false)) (fun _ i _ => n - (intOf i).toNat)
  case atStart => exact ⟨0, Nat.zero_le _, rfl, Below.refl _ _, fun j hj => absurd hj (Nat.not_lt_zero _)⟩
  case round =>
    obtain ⟨k, hk, rfl, hb0, A⟩ := hrel
    have HB : Hid (Below w.heap.size w wr) := hb0
    clear hb0
    by_cases hlt : k < n
    · have hcell := HC.out wr k HB.out hlt
      have hcall := HP.out wr k HB.out hlt
      obtain ⟨x, hx⟩ : ∃ x, x = us k := ⟨_, rfl⟩
      rw [← hx] at hcell hcall
      clear hx
      have hltz : (k : Int) < (n : Int) := by omega
      cases hq : p k with
      | true =>
        rw [hq] at hcall
        have HQ : Hid (p k = true) := hq
        have HCl : Hid (Calls Tryd.prog 53 #[.int .i64 (x), .pointer (some ⟨P, 0, none⟩)] wr fun e w' => e = .returned (.bool true) ∧ Below wr.heap.size wr w') := hcall
        clear hcall hq
        go_wp2_with fail
        go_at_call 53
        refine HCl.out.mono ?_
        rintro e w' ⟨rfl, hb'⟩
        have HB' : Hid (Below w.heap.size w w') := HB.out.trans (hb'.mono HB.out.size)
        clear hb'
        go_wp2
        go_ret
        exact ⟨⟨_, rfl, fun _ => ⟨k, hlt, HQ.out⟩, fun _ => by omega⟩, HB'.out⟩
      | false =>
        rw [hq] at hcall
        have HQ : Hid (p k = false) := hq
        have HCl : Hid (Calls Tryd.prog 53 #[.int .i64 (x), .pointer (some ⟨P, 0, none⟩)] wr fun e w' => e = .returned (.bool false) ∧ Below wr.heap.size wr w') := hcall
        clear hcall hq
        go_wp2_with fail
        go_at_call 53
        refine HCl.out.mono ?_
        rintro e w' ⟨rfl, hb'⟩
        have HB' : Hid (Below w.heap.size w w') := HB.out.trans (hb'.mono HB.out.size)
        clear hb'
        go_wp2
        go_roundw
        case rel =>
          refine ⟨k + 1, by omega, by go_num, HB'.out, fun j hj => ?_⟩
          by_cases e : j = k
          · rw [e]; exact HQ.out
          · exact A.out j (by omega)
        case measure => simp [intOf]; omega
    · have hltz : ¬ (k : Int) < (n : Int) := by omega
      go_wp2
      go_ret
      refine ⟨⟨_, rfl, fun h => absurd h (by decide), fun ⟨j, hj, hpj⟩ => ?_⟩, HB.out⟩
      rw [A.out j (by omega)] at hpj; cases hpj
theorem coreIdx_none (a : Option Addr) (cap : Nat) (fv : Value) (w : World) : Calls Tryd.prog 62 #[.slice a 0 cap, fv] w fun e w' => e = .returned (.int .i64 (-1)) ∧ w = w' := by
  go_enter Tryd.func62, Tryd.ntmps62
  go_wp2
  go_loopw [5, 8] (fun _ i wr => i = .int .i64 0 ∧ w = wr) (fun _ _ _ => 0)
  case atStart => exact ⟨rfl, rfl⟩
  case round =>
    obtain ⟨rfl, rfl⟩ := hrel
    go_wp2
    go_ret
    exact ⟨rfl, rfl⟩

set_option maxHeartbeats 2000000 in
theorem coreHas (v : Value) (t : List Int) (P : Nat) (s : Int) (w : World) (hR : Reads w v t) (hP : w.cell? ⟨P, 0, none⟩ = some (.int .i64 s)) :
    Calls Tryd.prog 35 #[v, .func (.func 53) #[] #[.pointer (some ⟨P, 0, none⟩)]] w fun e w' => e = .returned (.bool (t.any fun h => decide (bits .and .i64 h s = s))) ∧ Below w.heap.size w w' := by
  obtain ⟨ao, m, cap, rfl, c⟩ : ∃ ao m cap, v = .slice ao m cap ∧ Calls Tryd.prog 62 #[.slice ao m cap, .func (.func 53) #[] #[.pointer (some ⟨P, 0, none⟩)]] w fun e w' => (∃ r : Int, e = .returned (.int .i64 r) ∧ (0 ≤ r ↔ (t.any fun h => decide (bits .and .i64 h s = s)) = true)) ∧ Below w.heap.size w w' := by
    rcases hR with ⟨ao, cap, rfl, rfl⟩ | ⟨b, off, cap, rfl, hB, h0, ⟨hl, hcp⟩, hc⟩
    · refine ⟨_, _, _, rfl, (coreIdx_none ao cap _ w).mono ?_⟩
      rintro e w' ⟨rfl, rfl⟩
      exact ⟨⟨_, rfl, by simp⟩, Below.refl _ _⟩
    · refine ⟨_, _, _, rfl, (coreIdx t.length b off cap P (fun k => t.getD k 0) s w hl hB hc hP).mono ?_⟩
      rintro e w' ⟨⟨r, rfl, hr⟩, hb⟩
      refine ⟨⟨r, rfl, ?_⟩, hb⟩
      rw [hr, List.any_eq_true]
      constructor
      · rintro ⟨k, hk, h⟩
        refine ⟨t.getD k 0, ?_, h⟩
        rw [List.getD_eq_getElem?_getD, List.getElem?_eq_getElem hk]
        exact List.getElem_mem hk
      · rintro ⟨x, hx, h⟩
        obtain ⟨k, hk⟩ := List.mem_iff_getElem?.1 hx
        refine ⟨k, (List.getElem?_eq_some_iff.1 hk).1, ?_⟩
        rw [List.getD_eq_getElem?_getD, hk]; exact h
  obtain ⟨R, hRd⟩ : ∃ R, R = t.any fun h => decide (bits .and .i64 h s = s) := ⟨_, rfl⟩
  rw [← hRd] at c ⊢
  have HCl : Hid (Calls Tryd.prog 62 #[.slice ao m cap, .func (.func 53) #[] #[.pointer (some ⟨P, 0, none⟩)]] w fun e w' => (∃ r : Int, e = .returned (.int .i64 r) ∧ (0 ≤ r ↔ R = true)) ∧ Below w.heap.size w w') := c
  clear c hRd hR hP
  go_enter Tryd.func35, Tryd.ntmps35
  go_wp2_with fail
  go_at_call 62
  refine HCl.out.mono ?_
  rintro e w' ⟨⟨r, rfl, hr⟩, hb⟩
  have HB : Hid (Below w.heap.size w w') := hb
  have HR : Hid (R = decide (0 ≤ r)) := by
    unfold Hid
    rw [Bool.eq_iff_iff, decide_eq_true_eq, hr]
  clear hb hr
  go_wp2
  go_ret
  exact ⟨back_b HR.out.symm, HB.out⟩
theorem isOpen_any (v : Value) (t : List Int) (s : Int) (w : World) (hR : Reads w v t) :
    Calls Tryd.prog 26 #[v, .int .i64 s] w fun e w' => e = .returned (.bool (t.any fun h => decide (bits .and .i64 h s = s))) ∧ Below w.heap.size w w' := by
  have hb1 := below_alloc1 w (.cells #[.int .i64 s] 3)
  have HCl : Hid (Calls Tryd.prog 35 #[v, .func (.func 53) #[] #[.pointer (some ⟨w.heap.size, 0, none⟩)]] (w.alloc (.cells #[.int .i64 s] 3)) fun e w' => e = .returned (.bool (t.any fun h => decide (bits .and .i64 h s = s))) ∧ Below w.heap.size w w') :=
    (coreHas v t w.heap.size s _ (hR.below hb1) ((Blk.new w 3 #[.int .i64 s]).cell 0)).mono fun e w' ⟨h1, h2⟩ => ⟨h1, hb1.trans (h2.mono hb1.size)⟩
  obtain ⟨R, hRd⟩ : ∃ R, R = t.any fun h => decide (bits .and .i64 h s = s) := ⟨_, rfl⟩
  rw [← hRd] at HCl ⊢
  clear hRd hb1 hR
  go_enter Tryd.func26, Tryd.ntmps26
  go_wp2_with fail
  go_at_call 35
  refine HCl.out.mono ?_
  rintro e w' ⟨rfl, hb⟩
  have HB : Hid (Below w.heap.size w w') := hb
  clear hb
  go_wp2
  go_ret
  exact ⟨rfl, HB.out⟩

set_option maxHeartbeats 4000000 in
theorem places_any (L : Nat → Bool) (n : Nat) (hn : n ≤ 6) (w : World) :
    Calls Tryd.prog 30 #[.int .i64 (maskTo L n), .int .i64 n] w fun e w' => (∃ v, e = .returned v ∧ Reads w' v (placesTo L n)) ∧ Below w.heap.size w w' := by
  have HH : Hid (∀ i, i < n → (bits .and .i64 (maskTo L n) (pw i) = 0 ↔ L i = false)) := fun i hi => mask_has L hn hi
  obtain ⟨m, hm⟩ : ∃ m, m = maskTo L n := ⟨_, rfl⟩
  rw [← hm] at HH ⊢
  clear hm
  go_enter Tryd.func30, Tryd.ntmps30
  go_wp2
  go_loopw [5, 8] (fun r i wr => ∃ k : Nat, k ≤ n ∧ i = .int .i64 k ∧ wr.ownsRow w.heap.size 3 1 r (placesTo L k).length ((placesTo L k).map (Value.int .i64)) ∧ Below w.heap.size w wr) (fun _ i _ => n - (intOf i).toNat)
  case atStart => exact ⟨0, Nat.zero_le _, rfl, World.ownsRow_nil _ _ _ _, Below.refl _ _⟩
  case round =>
    obtain ⟨k, hk, rfl, hown, hbr⟩ := hrel
    have HO : Hid (wr.ownsRow w.heap.size 3 1 u5 (placesTo L k).length ((placesTo L k).map (Value.int .i64))) := hown
    have HB : Hid (Below w.heap.size w wr) := hbr
    clear hown hbr
    by_cases hlt : k < n
    · have hltz : (k : Int) < (n : Int) := by omega
      have hh := HH.out k hlt
      go_wp2_with fail
      go_at_call 29
      refine (coreBit_any k (by omega) _).mono ?_
      rintro e w' ⟨rfl, rfl⟩
      have HLn : Hid ((placesTo L k).length ≤ k) := placesTo_length L k
      cases hL : L k with
      | true =>
        have HS : Hid (placesTo L (k + 1) = placesTo L k ++ [(k : Int)]) := by unfold Hid; rw [placesTo, if_pos hL]
        have hz : (bits .and .i64 m (pw k) == 0) = false := by rw [hL] at hh; simp at hh; simpa using hh
        obtain ⟨l, hl⟩ : ∃ l, l = placesTo L k := ⟨_, rfl⟩
        rw [← hl] at HS HO HLn
        clear hh hL hl
        have hl12 : l.length ≤ 1000000 := by have := HLn.out; omega
        go_wp2_with (at_builtin; refine append_long rfl _ _ rfl w.heap.size u5 rfl l k wr.heap.size 1 rfl (HO.out.alloc _) (heap_alloc_new wr _) (by have := HB.out.size; simp; omega) hl12 ?_)
        intro v9 w9 hown hgrow _
        have HBa : Hid (Below w.heap.size w (wr.alloc (.cells #[.int .i64 k] 3))) := HB.out.alloc HB.out.size _
        have HB9 : Hid (Below w.heap.size w w9) := HBa.out.grown hgrow HBa.out.size (fun x hx => (HO.out.lt x hx).1)
        have HO9 : Hid (w9.ownsRow w.heap.size 3 1 v9 (placesTo L (k + 1)).length ((placesTo L (k + 1)).map (Value.int .i64))) := by
          unfold Hid
          rw [HS.out, List.length_append, List.map_append]
          exact hown
        clear hown hgrow
        go_wp2
        go_roundw
        case rel => exact ⟨k + 1, by omega, by go_num, HO9.out, HB9.out⟩
        case measure => simp [intOf]; omega
      | false =>
        have HS : Hid (placesTo L (k + 1) = placesTo L k) := by unfold Hid; rw [placesTo, if_neg (by rw [hL]; decide), List.append_nil]
        have hz : bits .and .i64 m (pw k) = 0 := hh.2 hL
        clear hh hL
        go_wp2
        go_roundw
        case rel => exact ⟨k + 1, by omega, by go_num, by rw [HS.out]; exact HO.out, HB.out⟩
        case measure => simp [intOf]; omega
    · obtain rfl : k = n := by omega
      have HR : Hid (Reads wr u5 (placesTo L k)) := own_readsL HO.out (by have := placesTo_length L k; omega)
      go_wp2
      go_ret
      exact ⟨⟨_, rfl, HR.out⟩, HB.out⟩
end Go.Proofs.YtgkgbpbohgklhagDoor

namespace Go.Proofs.YtgkgbpbohgklhagDoor
open Go.ChangeShapes Go.WideShapes Go.ChangeAt Go.RowKit
set_option maxRecDepth 100000

set_option maxHeartbeats 8000000 in
theorem coreCheck_any (v : Value) (fs : List Fm) (u : Int) (w : World) (hF : ReadsF w v fs) (hK : KindsLaid w) :
    Calls Tryd.prog 50 #[v, .int .i64 u] w fun e w' => e = .returned (errV (formsFault fs u)) ∧ Below w.heap.size w w' := by
  obtain ⟨lo, lcap, rfl, hl63⟩ := hF.slice
  have HF : Hid (ReadsF w (.slice lo fs.length lcap) fs) := hF
  have HFm : Hid (∀ f va vc W, Below w.heap.size w W → ReadsA W va f.ats → Reads W vc f.c → Calls Tryd.prog 31 #[.agg #[va, vc]] W fun e w' => e = .returned (errV (Fm.fault f)) ∧ Below W.heap.size W w') := fun f va vc W hW hA hC => fcheck_any va vc f.ats f.c W hA hC (hK.below hW)
  obtain ⟨R, hR⟩ : ∃ R, R = formsFault fs u := ⟨_, rfl⟩
  have H0 : Hid (fs.length = 0 → R = 5) := fun h => by rw [hR]; unfold formsFault; rw [if_pos h]
  have H6 : Hid (¬ fs.length = 0 → 6 < fs.length → R = 4) := fun h1 h2 => by rw [hR]; unfold formsFault; rw [if_neg h1, if_pos h2]
  have HBad : Hid (¬ fs.length = 0 → ¬ 6 < fs.length → ∀ (k : Nat) f, fs[k]? = some f → (∀ j, j < k → ∀ g, fs[j]? = some g → Fm.fault g = 0) → ¬ Fm.fault f = 0 → R = Fm.fault f) := fun h1 h2 k f hk hj hf => by
    have e := firstForm_at hk hj hf
    rw [hR]; unfold formsFault; rw [if_neg h1, if_neg h2, if_neg (by rw [e]; exact hf), e]
  have HEnd : Hid (¬ fs.length = 0 → ¬ 6 < fs.length → (∀ j, j < fs.length → ∀ g, fs[j]? = some g → Fm.fault g = 0) → R = if 0 ≤ u ∧ u ≤ 6 then 0 else 1) := fun h1 h2 hj => by
    have e : firstForm fs = 0 := firstForm_zero.2 fun f hf => by
      obtain ⟨i, hi⟩ := List.mem_iff_getElem?.1 hf
      exact hj i (List.getElem?_eq_some_iff.1 hi).1 f hi
    rw [hR]; unfold formsFault; rw [if_neg h1, if_neg h2, if_pos e]
  rw [← hR]
  obtain ⟨n, hn⟩ : ∃ n, n = fs.length := ⟨_, rfl⟩
  rw [← hn] at HF hl63 H0 H6 HBad HEnd ⊢
  have HN : Hid (n = fs.length) := hn
  clear hF hR hn hK
  by_cases hz : n = 0
  · have HR : Hid (R = 5) := H0.out hz
    subst hz
    go_enter Tryd.func50, Tryd.ntmps50
    go_wp2
    go_ret
    exact ⟨by first | (rw [HR.out]; done) | (rw [HR.out]; rfl), Below.refl _ _⟩
  · by_cases h6 : 6 < n
    · have HR : Hid (R = 4) := H6.out hz h6
      have dz : ((n : Int) == 0) = false := by simp; omega
      have h6' : (6 : Int) < (n : Int) := by omega
      go_enter Tryd.func50, Tryd.ntmps50
      go_wp2
      go_ret
      exact ⟨by first | (rw [HR.out]; done) | (rw [HR.out]; rfl), Below.refl _ _⟩
    · have dz : ((n : Int) == 0) = false := by simp; omega
      have h6' : (n : Int) ≤ 6 := by omega
      have HBad' : Hid (∀ (k : Nat) f, fs[k]? = some f → (∀ j, j < k → ∀ g, fs[j]? = some g → Fm.fault g = 0) → ¬ Fm.fault f = 0 → R = Fm.fault f) := HBad.out hz h6
      have HEnd' : Hid ((∀ j, j < n → ∀ g, fs[j]? = some g → Fm.fault g = 0) → R = if 0 ≤ u ∧ u ≤ 6 then 0 else 1) := HEnd.out hz h6
      have Hz : Hid (¬ n = 0) := hz
      clear hz h6 H0 H6 HBad HEnd
      go_enter Tryd.func50, Tryd.ntmps50
      go_wp2
      go_loopw [18] (fun i wr => ∃ k : Nat, k ≤ n ∧ i = .int .i64 k ∧ Below w.heap.size w wr ∧ ∀ j, j < k → ∀ g, fs[j]? = some g → Fm.fault g = 0) (fun i _ => n - (intOf i).toNat)
      case atStart => exact ⟨0, Nat.zero_le _, rfl, Below.refl _ _, fun j hj => by omega⟩
      case round =>
        obtain ⟨k, hk, rfl, hbr, hso⟩ := hrel
        have HBr : Hid (Below w.heap.size w wr) := hbr
        have HSo : Hid (∀ j, j < k → ∀ g, fs[j]? = some g → Fm.fault g = 0) := hso
        clear hbr hso
        by_cases hlt : k < n
        · obtain ⟨f, hf⟩ : ∃ f, fs[k]? = some f := ⟨_, List.getElem?_eq_getElem (by rw [← HN.out]; exact hlt)⟩
          have HFk : Hid (fs[k]? = some f) := hf
          obtain ⟨bL, oL, cL, hv⟩ := HF.out.place (by rw [← HN.out]; omega)
          obtain ⟨hlo, hx1, hx2⟩ := Value.slice.inj hv
          clear hx1 hx2
          subst hlo
          obtain ⟨hbL, va, vc, c0, c1, hA, hC⟩ := HF.out.at hf
          have HFc : Hid (∀ W, Below wr.heap.size wr W → Calls Tryd.prog 31 #[.agg #[va, vc]] W fun e w' => e = .returned (errV (Fm.fault f)) ∧ Below w.heap.size w w') := fun W hW => by
            have hb' := HBr.out.trans (hW.mono HBr.out.size)
            exact (HFm.out f va vc W hb' (hA.below hb') (hC.below hb')).mono fun e w' ⟨h1, h2⟩ => ⟨h1, hb'.trans (h2.mono hb'.size)⟩
          have x0 : wr.cell? ⟨bL, oL + k * 2, none⟩ = some va := (HBr.out.cell hbL).trans c0
          have x1 : wr.cell? ⟨bL, oL + k * 2 + 1, none⟩ = some vc := (HBr.out.cell hbL).trans c1
          obtain ⟨ao, acap, rfl, _⟩ := hA.slice
          obtain ⟨co, ccap, rfl, _⟩ := hC.slice
          obtain ⟨al, hal⟩ : ∃ x, x = f.ats.length := ⟨_, rfl⟩
          obtain ⟨cl, hcl⟩ : ∃ x, x = f.c.length := ⟨_, rfl⟩
          rw [← hal] at x0 HFc
          rw [← hcl] at x1 HFc
          obtain ⟨q, hq⟩ : ∃ q, q = Fm.fault f := ⟨_, rfl⟩
          have HQ : Hid (q = Fm.fault f) := hq
          rw [← hq] at HFc
          clear hf hv hbL c0 c1 hA hC hq hal hcl
          have hkn : (k : Int) < (n : Int) := by omega
          by_cases h0 : q = 0
          · have HFz : Hid (∀ W, Below wr.heap.size wr W → Calls Tryd.prog 31 #[.agg #[.slice ao al acap, .slice co cl ccap]] W fun e w' => e = .returned .nilIface ∧ Below w.heap.size w w') := by
              have h := HFc.out
              rw [h0] at h
              exact h
            have HQ0 : Hid (Fm.fault f = 0) := by unfold Hid; rw [← HQ.out, h0]
            clear h0 HFc HQ
            go_wp2_with fail
            go_at_call 31
            refine (HFz.out _ (by first | exact below_alloc1 _ _ | exact ((((Below.refl _ _).alloc (Nat.le_refl _) _).setCell (by simp) _).setCell (by simp) _))).mono ?_
            rintro e w8 ⟨rfl, hb8⟩
            have HB8 : Hid (Below w.heap.size w w8) := hb8
            clear hb8 x0 x1
            go_wp2
            go_roundw
            case rel =>
              refine ⟨k + 1, by omega, by go_num, HB8.out, fun j hj g hg => ?_⟩
              by_cases e : j = k
              · subst e
                obtain rfl : f = g := Option.some.inj (HFk.out.symm.trans hg)
                exact HQ0.out
              · exact HSo.out j (by omega) g hg
            case measure => simp [intOf]; omega
          · have HFz : Hid (∀ W, Below wr.heap.size wr W → Calls Tryd.prog 31 #[.agg #[.slice ao al acap, .slice co cl ccap]] W fun e w' => e = .returned (.iface 64 (.int .i64 q)) ∧ Below w.heap.size w w') := by
              have h := HFc.out
              rw [show errV q = .iface 64 (.int .i64 q) by unfold errV; rw [if_neg h0]] at h
              exact h
            have HR : Hid (errV R = .iface 64 (.int .i64 q)) := by
              unfold Hid
              rw [HBad'.out k f HFk.out HSo.out (by rw [← HQ.out]; exact h0), ← HQ.out]
              unfold errV; rw [if_neg h0]
            clear h0 HFc HQ
            go_wp2_with fail
            go_at_call 31
            refine (HFz.out _ (by first | exact below_alloc1 _ _ | exact ((((Below.refl _ _).alloc (Nat.le_refl _) _).setCell (by simp) _).setCell (by simp) _))).mono ?_
            rintro e w8 ⟨rfl, hb8⟩
            have HB8 : Hid (Below w.heap.size w w8) := hb8
            clear hb8 x0 x1
            go_wp2
            go_ret
            exact ⟨by first | (rw [HR.out]; done) | (rw [HR.out]; rfl), HB8.out⟩
        · obtain rfl : k = n := by omega
          have hE := HEnd'.out HSo.out
          by_cases hu : 0 ≤ u ∧ u ≤ 6
          · rw [if_pos hu] at hE
            have HR : Hid (R = 0) := hE
            have h : okB u 0 = true := ok_zero hu.1 hu.2
            have HC : Hid (∀ W, Calls Tryd.prog 67 #[.int .i64 u, .int .i64 0] W fun e w' => e = .returned .nilIface ∧ W = w') := fun W => check_ok _ _ h W
            clear hE hu h
            go_wp2_with fail
            go_at_call 67
            refine (HC.out _).mono ?_
            rintro e w' ⟨rfl, rfl⟩
            go_wp2
            go_ret
            exact ⟨by first | (rw [HR.out]; done) | (rw [HR.out]; rfl), HBr.out⟩
          · rw [if_neg hu] at hE
            have HR : Hid (R = 1) := hE
            have h : okB u 0 = false := okB_not.2 fun h => hu ⟨h.1, h.2.1⟩
            have HC : Hid (∀ W, Calls Tryd.prog 67 #[.int .i64 u, .int .i64 0] W fun e w' => e = .returned (.iface 64 (.int .i64 1)) ∧ W = w') := fun W => check_no _ _ h W
            clear hE hu h
            go_wp2_with fail
            go_at_call 67
            refine (HC.out _).mono ?_
            rintro e w' ⟨rfl, rfl⟩
            go_wp2
            go_ret
            exact ⟨by first | (rw [HR.out]; done) | (rw [HR.out]; rfl), HBr.out⟩

set_option maxHeartbeats 8000000 in
theorem holding_any (v : Value) (fs : List Fm) (hgood : ∀ f ∈ fs, f.fault = 0) (h6 : fs.length ≤ 6) (D : Wd) (hok : D.ok = true) (w : World) (hF : ReadsF w v fs) (hK : KindsLaid w) :
    Calls Tryd.prog 52 #[v, .agg #[.int .i64 D.u, .int .i64 D.a, .int .i64 D.b, .int .i64 D.c]] w fun e w' => e = .returned (.tuple #[.int .i64 (maskTo (holdsAt fs D) fs.length), .nilIface]) ∧ Below w.heap.size w w' := by
  obtain ⟨lo, lcap, rfl, hl63⟩ := hF.slice
  have HF : Hid (ReadsF w (.slice lo fs.length lcap) fs) := hF
  have HHo : Hid (∀ (k : Nat) f va vc W, fs[k]? = some f → Below w.heap.size w W → ReadsA W va f.ats → Reads W vc f.c → Calls Tryd.prog 15 #[.agg #[va, vc], .agg #[.int .i64 D.u, .int .i64 D.a, .int .i64 D.b, .int .i64 D.c]] W fun e w' => e = .returned (.tuple #[.bool (holdsAt fs D k), .nilIface]) ∧ Below W.heap.size W w') := fun k f va vc W hf hW hA hC => by
    have h := fholds_any va vc f.ats f.c D.u D.a D.b D.c W hA hC (hK.below hW)
    have e : (Wd.mk D.u D.a D.b D.c).formFault f.ats f.c = 0 := wdForm_zero.2 ⟨hgood f (List.mem_of_getElem? hf), hok⟩
    rw [e] at h
    rw [holds_at hf]
    exact h
  have HOr : Hid (∀ k, k < fs.length → holdsAt fs D k = true → bits .or .i64 (maskTo (holdsAt fs D) k) (pw k) = maskTo (holdsAt fs D) (k + 1)) := fun k hk h => mask_or _ (by omega) h
  have HNo : Hid (∀ k, holdsAt fs D k = false → maskTo (holdsAt fs D) (k + 1) = maskTo (holdsAt fs D) k) := fun k h => mask_not _ h
  obtain ⟨L, hL⟩ : ∃ L, L = holdsAt fs D := ⟨_, rfl⟩
  rw [← hL] at HHo HOr HNo ⊢
  obtain ⟨n, hn⟩ : ∃ n, n = fs.length := ⟨_, rfl⟩
  rw [← hn] at HF hl63 HOr h6 ⊢
  have HN : Hid (n = fs.length) := hn
  obtain ⟨w1, hw1⟩ : ∃ w1, w1 = w.alloc (.cells #[.int .i64 D.u, .int .i64 D.a, .int .i64 D.b, .int .i64 D.c] 37) := ⟨_, rfl⟩
  have HB1 : Hid (Below w.heap.size w w1) := by unfold Hid; rw [hw1]; exact below_alloc1 _ _
  have HQ1 : Hid (Blk w1 w.heap.size 37 (arrW D)) := by unfold Hid; rw [hw1]; exact Blk.new _ _ _
  clear hF hL hn hgood hok hK
  go_enter Tryd.func52, Tryd.ntmps52
  go_wp2
  rw [← hw1]
  clear hw1
  go_loopw [6, 13] (fun h i wr => ∃ k : Nat, k ≤ n ∧ i = .int .i64 k ∧ h = .int .i64 (maskTo L k) ∧ Below w1.heap.size w1 wr) (fun _ i _ => n - (intOf i).toNat)
  case atStart => exact ⟨0, Nat.zero_le _, rfl, rfl, Below.refl _ _⟩
  case round =>
    obtain ⟨k, hk, rfl, rfl, hbr⟩ := hrel
    have HBr : Hid (Below w1.heap.size w1 wr) := hbr
    have HBw : Hid (Below w.heap.size w wr) := HB1.out.trans (hbr.mono HB1.out.size)
    clear hbr
    by_cases hlt : k < n
    · obtain ⟨f, hf⟩ : ∃ f, fs[k]? = some f := ⟨_, List.getElem?_eq_getElem (by rw [← HN.out]; exact hlt)⟩
      obtain ⟨bL, oL, cL, hv⟩ := HF.out.place (by rw [← HN.out]; omega)
      obtain ⟨hlo, hx1, hx2⟩ := Value.slice.inj hv
      clear hx1 hx2
      subst hlo
      obtain ⟨hbL, va, vc, c0, c1, hA, hC⟩ := HF.out.at hf
      obtain ⟨ao, acap, rfl, _⟩ := hA.slice
      obtain ⟨co, ccap, rfl, _⟩ := hC.slice
      have x0 : wr.cell? ⟨bL, oL + k * 2, none⟩ = some (.slice ao f.ats.length acap) := (HBw.out.cell hbL).trans c0
      have x1 : wr.cell? ⟨bL, oL + k * 2 + 1, none⟩ = some (.slice co f.c.length ccap) := (HBw.out.cell hbL).trans c1
      have HH1 : Hid (∀ W, Below wr.heap.size wr W → Calls Tryd.prog 15 #[.agg #[.slice ao f.ats.length acap, .slice co f.c.length ccap], .agg #[.int .i64 D.u, .int .i64 D.a, .int .i64 D.b, .int .i64 D.c]] W fun e w' => e = .returned (.tuple #[.bool (L k), .nilIface]) ∧ Below w1.heap.size w1 w') := fun W hW => by
        have hb' := HBw.out.trans (hW.mono HBw.out.size)
        have hb1 := HBr.out.trans (hW.mono HBr.out.size)
        exact (HHo.out k f _ _ W hf hb' (hA.below hb') (hC.below hb')).mono fun e w' ⟨he, hb⟩ => ⟨he, hb1.trans (hb.mono hb1.size)⟩
      obtain ⟨al, hal⟩ : ∃ x, x = f.ats.length := ⟨_, rfl⟩
      obtain ⟨cl, hcl⟩ : ∃ x, x = f.c.length := ⟨_, rfl⟩
      rw [← hal] at x0 HH1
      rw [← hcl] at x1 HH1
      obtain ⟨wf, hwf⟩ : ∃ x, x = wr.alloc (.cells #[.slice ao al acap, .slice co cl ccap] 42) := ⟨_, rfl⟩
      have HBf : Hid (Below wr.heap.size wr wf) := by unfold Hid; rw [hwf]; exact below_alloc1 _ _
      have HQf : Hid (Blk wf wr.heap.size 42 #[.slice ao al acap, .slice co cl ccap]) := by unfold Hid; rw [hwf]; exact Blk.new _ _ _
      have HH2 : Hid (Calls Tryd.prog 15 #[.agg #[.slice ao al acap, .slice co cl ccap], .agg #[.int .i64 D.u, .int .i64 D.a, .int .i64 D.b, .int .i64 D.c]] wf fun e w' => e = .returned (.tuple #[.bool (L k), .nilIface]) ∧ Below w1.heap.size w1 w') := HH1.out _ HBf.out
      clear hf hv hbL c0 c1 hA hC hal hcl HH1
      have hkn : (k : Int) < (n : Int) := by omega
      obtain ⟨q, hq⟩ : ∃ q, q = L k := ⟨_, rfl⟩
      have HQ : Hid (q = L k) := hq
      rw [← hq] at HH2
      clear hq
      go_upto_region 5 with fail
      rw [← hwf]
      clear hwf x0 x1
      have y0 : wf.cell? ⟨wr.heap.size, 0, none⟩ = some (.slice ao al acap) := HQf.out.cell 0
      have y1 : wf.cell? ⟨wr.heap.size, 1, none⟩ = some (.slice co cl ccap) := HQf.out.cell 1
      obtain ⟨d0, d1, d2, d3⟩ := ((HQ1.out.below HBr.out).below HBf.out).cells4
      go_wp2_with fail
      go_at_call 15
      refine HH2.out.mono ?_
      rintro e w8 ⟨rfl, hb8⟩
      have HB8 : Hid (Below w1.heap.size w1 w8) := hb8
      clear hb8 y0 y1 d0 d1 d2 d3
      cases q with
      | true =>
        have HS : Hid (bits .or .i64 (maskTo L k) (pw k) = maskTo L (k + 1)) := HOr.out k hlt HQ.out.symm
        obtain ⟨m, hm⟩ : ∃ m, m = maskTo L k := ⟨_, rfl⟩
        rw [← hm] at HS ⊢
        clear hm
        go_wp2_with fail
        go_at_call 29
        refine (coreBit_any k (by omega) _).mono ?_
        rintro e w' ⟨rfl, rfl⟩
        go_wp2
        go_roundw
        case rel => exact ⟨k + 1, by omega, by go_num, by rw [HS.out], HB8.out⟩
        case measure => simp [intOf]; omega
      | false =>
        have HS : Hid (maskTo L (k + 1) = maskTo L k) := HNo.out k HQ.out.symm
        go_wp2
        go_roundw
        case rel => exact ⟨k + 1, by omega, by go_num, by rw [HS.out], HB8.out⟩
        case measure => simp [intOf]; omega
    · obtain rfl : k = n := by omega
      go_wp2
      go_ret2
      exact ⟨rfl, HBw.out⟩
end Go.Proofs.YtgkgbpbohgklhagDoor
