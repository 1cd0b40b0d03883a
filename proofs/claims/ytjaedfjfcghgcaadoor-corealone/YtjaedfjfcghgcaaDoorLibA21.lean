/-
  Proved: what core.Open and core.Of return, of any formulas and any number of things; what was in memory is as it was (contracts that the statements of chapter 13 lean on).
  Proved: where the variable atom.kinds reads as the row lists it, its eighteen cells are those of the table of kinds. (What the tied statements' frames lean on.)
  Proved: where the variable errors.errorType reads as the row lists it, its one cell holds the handle of the type error; and the heap that the program's own initialisers leave meets the row's condition. (What the tied statements' frames lean on; after the guide's worked examples Toyas and Mapy.)
  Proved: the row's condition on errors.errorType and atom.kinds gives the walk the error's handle and the table of kinds, and the heap that the program's own initialisers leave meets the condition. (What the tied statements' frames lean on.)
  Proved: what an argument of a statement is: a slice of numbers reads as a list, a world is four numbers, a string has a size; and that an argument reads behind a call that turns nothing that was there as it read before. (What the statements' frames lean on.)
  Proved: what an atom is, as an argument of a statement: two numbers, and two slices that read as lists. (What the statements' frames lean on.)
  Proved: what a formula is, as an argument of a statement: a slice of atoms, and a slice of numbers. (What the statements' frames lean on.)
  Proved: what a slice of formulas is, as an argument of a statement. (What the statements' frames lean on.)
-/
import Derived.Test.YtjaedfjfcghgcaaDoorLibA20
import Derived.Test.YtjaedfjfcghgcaaDoorRows
import Derived.Test.YtjaedfjfcghgcaaDoorLibA9
import Derived.ProofKit
import Derived.OpenShut
import Derived.LaidLaws
import Derived.Stop.LaidErr
import Derived.Deep.Strs
import Derived.Test.YtjaedfjfcghgcaaDoorLibA6
import Derived.LaidMore
import Derived.LaidHandle
import Derived.Stop.Joined
import Derived.Test.YtjaedfjfcghgcaaDoorLibA5
import Derived.Carry
import Derived.Lib.SmallJoins
import Derived.Deep.Slices
namespace Go.Proofs.YtjaedfjfcghgcaaDoor
open Go.ChangeShapes Go.WideShapes Go.ChangeAt Go.RowKit
set_option maxRecDepth 100000

theorem open_bits {fs : List Fm} (h6 : fs.length ≤ 6) (u : Nat) : ((heldL fs u).any fun h => decide (bits .and .i64 h (maskTo (fun _ => true) fs.length) = maskTo (fun _ => true) fs.length)) = openN fs u := by
  have h := held_open h6 u (fun _ => false)
  rw [left_all] at h
  exact h

set_option maxHeartbeats 4000000 in
theorem coreOpen_any (v : Value) (fs : List Fm) (u : Int) (w : World) (hF : ReadsF w v fs) (hK : KindsLaid w) :
    Calls Tryd.prog 11 #[v, .int .i64 u] w fun e w' => e = .returned (.tuple #[.bool (openB fs u), errV (formsFault fs u)]) ∧ Below w.heap.size w w' := by
  have hH := heldIn_any v fs u w hF hK
  obtain ⟨lo, lcap, rfl, _⟩ := hF.slice
  by_cases hf : formsFault fs u = 0
  · obtain ⟨⟨_, h6⟩, _, _⟩ := forms_zero.1 hf
    have e : openB fs u = openN fs u.toNat := by unfold openB; rw [if_pos hf]
    rw [hf, if_pos rfl] at hH
    rw [hf, e]
    have HH : Hid (Calls Tryd.prog 27 #[.slice lo fs.length lcap, .int .i64 u] w fun e w' => (∃ x, e = .returned (.tuple #[x, .nilIface]) ∧ Reads w' x (heldL fs u.toNat)) ∧ Below w.heap.size w w') := hH
    have HAl : Hid (∀ W, Calls Tryd.prog 29 #[.slice lo fs.length lcap] W fun e w' => e = .returned (.int .i64 (maskTo (fun _ => true) fs.length)) ∧ W = w') := fun W => coreAll_any lo _ lcap h6 W
    have HOp : Hid (∀ x W, Reads W x (heldL fs u.toNat) → Calls Tryd.prog 28 #[x, .int .i64 (maskTo (fun _ => true) fs.length)] W fun e w' => e = .returned (.bool (openN fs u.toNat)) ∧ Below W.heap.size W w') := fun x W hx => by
      have h := isOpen_any x _ (maskTo (fun _ => true) fs.length) W hx
      rw [open_bits h6] at h
      exact h
    obtain ⟨n, hn⟩ : ∃ n, n = fs.length := ⟨_, rfl⟩
    obtain ⟨m, hm⟩ : ∃ m, m = maskTo (fun _ => true) fs.length := ⟨_, rfl⟩
    obtain ⟨t, ht⟩ : ∃ t, t = heldL fs u.toNat := ⟨_, rfl⟩
    obtain ⟨q, hq⟩ : ∃ q, q = openN fs u.toNat := ⟨_, rfl⟩
    rw [← hm] at HAl HOp
    rw [← hn] at HH HAl ⊢
    rw [← ht] at HH HOp
    rw [← hq] at HOp ⊢
    clear hH hf h6 e hn hm ht hq hF hK
    go_enter Tryd.func11, Tryd.ntmps11
    go_wp2_with fail
    go_at_call 27
    refine HH.out.mono ?_
    rintro e w1 ⟨⟨x, rfl, hr⟩, hb⟩
    have HB1 : Hid (Below w.heap.size w w1) := hb
    have HO1 : Hid (Calls Tryd.prog 28 #[x, .int .i64 m] w1 fun e w' => e = .returned (.bool q) ∧ Below w1.heap.size w1 w') := HOp.out x w1 hr
    obtain ⟨xo, xn, xc, rfl⟩ : ∃ xo xn xc, x = .slice xo xn xc := by
      rcases hr with ⟨ao, cap, rfl, _⟩ | ⟨b, off, cap, rfl, _⟩
      · exact ⟨_, _, _, rfl⟩
      · exact ⟨_, _, _, rfl⟩
    clear hb hr
    go_wp2_with fail
    go_at_call 29
    refine (HAl.out _).mono ?_
    rintro e w2 ⟨rfl, rfl⟩
    go_wp2_with fail
    go_at_call 28
    refine HO1.out.mono ?_
    rintro e w2 ⟨rfl, hb⟩
    have HB2 : Hid (Below w.heap.size w w2) := HB1.out.trans (hb.mono HB1.out.size)
    clear hb
    go_wp2
    go_ret2
    exact ⟨rfl, HB2.out⟩
  · have e : openB fs u = false := by unfold openB; rw [if_neg hf]
    have e2 : errV (formsFault fs u) = .iface 64 (.int .i64 (formsFault fs u)) := by unfold errV; rw [if_neg hf]
    rw [if_neg hf, e2] at hH
    rw [e, e2]
    obtain ⟨F, hFd⟩ : ∃ F, F = formsFault fs u := ⟨_, rfl⟩
    obtain ⟨n, hn⟩ : ∃ n, n = fs.length := ⟨_, rfl⟩
    rw [← hFd, ← hn] at hH
    rw [← hFd, ← hn]
    have HH : Hid (Calls Tryd.prog 27 #[.slice lo n lcap, .int .i64 u] w fun e w' => (∃ x, e = .returned (.tuple #[x, .iface 64 (.int .i64 F)]) ∧ Reads w' x []) ∧ Below w.heap.size w w') := hH
    clear hH hf e e2 hFd hn hF hK
    go_enter Tryd.func11, Tryd.ntmps11
    go_wp2_with fail
    go_at_call 27
    refine HH.out.mono ?_
    rintro e w1 ⟨⟨x, rfl, hr⟩, hb⟩
    have HB1 : Hid (Below w.heap.size w w1) := hb
    obtain ⟨xo, xn, xc, rfl⟩ : ∃ xo xn xc, x = .slice xo xn xc := by
      rcases hr with ⟨ao, cap, rfl, _⟩ | ⟨b, off, cap, rfl, _⟩
      · exact ⟨_, _, _, rfl⟩
      · exact ⟨_, _, _, rfl⟩
    clear hb hr
    go_wp2
    go_ret2
    exact ⟨rfl, HB1.out⟩

set_option maxHeartbeats 8000000 in
theorem coreOf_in (lo : Option Addr) (n lcap : Nat) (u : Int) (t : List Int) (Q : Bool) (q : Nat → Bool) (M N : Nat → Int) (c : List Int) (hn : n ≤ 6) (w : World)
    (hH : Calls Tryd.prog 27 #[.slice lo n lcap, .int .i64 u] w fun e w' => (∃ x, e = .returned (.tuple #[x, .nilIface]) ∧ Reads w' x t) ∧ Below w.heap.size w w')
    (hAl : ∀ W, Calls Tryd.prog 29 #[.slice lo n lcap] W fun e w' => e = .returned (.int .i64 (M 0)) ∧ W = w')
    (hO : ∀ x W, Reads W x t → Calls Tryd.prog 28 #[x, .int .i64 (M 0)] W fun e w' => e = .returned (.bool Q) ∧ Below W.heap.size W w')
    (hOi : ∀ i, i < n → ∀ x W, Reads W x t → Calls Tryd.prog 28 #[x, .int .i64 (N i)] W fun e w' => e = .returned (.bool (q i)) ∧ Below W.heap.size W w')
    (hN : ∀ i, i < n → bits .andNot .i64 (M i) (pw i) = N i) (hM : ∀ i, i < n → M (i + 1) = if q i = true then M i else N i)
    (hPl : ∀ W, Calls Tryd.prog 32 #[.int .i64 (M n), .int .i64 n] W fun e w' => (∃ v, e = .returned v ∧ Reads w' v c) ∧ Below W.heap.size W w') :
    Calls Tryd.prog 14 #[.slice lo n lcap, .int .i64 u] w fun e w' => (∃ x, e = .returned (.tuple #[x, if Q = true then .iface 64 (.int .i64 8) else .nilIface]) ∧ Reads w' x (if Q = true then [] else c)) ∧ Below w.heap.size w w' := by
  have HH : Hid (Calls Tryd.prog 27 #[.slice lo n lcap, .int .i64 u] w fun e w' => (∃ x, e = .returned (.tuple #[x, .nilIface]) ∧ Reads w' x t) ∧ Below w.heap.size w w') := hH
  have HAl : Hid (∀ W, Calls Tryd.prog 29 #[.slice lo n lcap] W fun e w' => e = .returned (.int .i64 (M 0)) ∧ W = w') := hAl
  have HO : Hid (∀ x W, Reads W x t → Calls Tryd.prog 28 #[x, .int .i64 (M 0)] W fun e w' => e = .returned (.bool Q) ∧ Below W.heap.size W w') := hO
  have HOi : Hid (∀ i, i < n → ∀ x W, Reads W x t → Calls Tryd.prog 28 #[x, .int .i64 (N i)] W fun e w' => e = .returned (.bool (q i)) ∧ Below W.heap.size W w') := hOi
  have HN : Hid (∀ i, i < n → bits .andNot .i64 (M i) (pw i) = N i) := hN
  have HM : Hid (∀ i, i < n → M (i + 1) = if q i = true then M i else N i) := hM
  have HPl : Hid (∀ W, Calls Tryd.prog 32 #[.int .i64 (M n), .int .i64 n] W fun e w' => (∃ v, e = .returned v ∧ Reads w' v c) ∧ Below W.heap.size W w') := hPl
  clear hH hAl hO hOi hN hM hPl
  go_enter Tryd.func14, Tryd.ntmps14
  go_wp2_with fail
  go_at_call 27
  refine HH.out.mono ?_
  rintro e w1 ⟨⟨x, rfl, hr⟩, hb⟩
  have HB1 : Hid (Below w.heap.size w w1) := hb
  have HR1 : Hid (Reads w1 x t) := hr
  have HO1 : Hid (Calls Tryd.prog 28 #[x, .int .i64 (M 0)] w1 fun e w' => e = .returned (.bool Q) ∧ Below w1.heap.size w1 w') := HO.out x w1 hr
  obtain ⟨xo, xn, xc, rfl⟩ : ∃ xo xn xc, x = .slice xo xn xc := by
    rcases hr with ⟨ao, cap, rfl, _⟩ | ⟨b, off, cap, rfl, _⟩
    · exact ⟨_, _, _, rfl⟩
    · exact ⟨_, _, _, rfl⟩
  clear hb hr
  go_wp2_with fail
  go_at_call 29
  refine (HAl.out _).mono ?_
  rintro e w2 ⟨rfl, rfl⟩
  go_wp2_with fail
  go_at_call 28
  refine HO1.out.mono ?_
  rintro e w2 ⟨rfl, hb⟩
  have HB2 : Hid (Below w.heap.size w w2) := HB1.out.trans (hb.mono HB1.out.size)
  have HR2 : Hid (Reads w2 (.slice xo xn xc) t) := HR1.out.below hb
  clear hb
  cases Q with
  | true =>
    go_wp2
    go_ret2
    exact ⟨⟨_, rfl, Or.inl ⟨none, 0, rfl, rfl⟩⟩, HB2.out⟩
  | false =>
    go_wp2
    go_loopw [8, 28] (fun r i wr => ∃ k : Nat, k ≤ n ∧ i = .int .i64 k ∧ r = .int .i64 (M k) ∧ Below w2.heap.size w2 wr) (fun _ i _ => n - (intOf i).toNat)
    case atStart => exact ⟨0, Nat.zero_le _, rfl, rfl, Below.refl _ _⟩
    case round =>
      obtain ⟨k, hk, rfl, rfl, hbr⟩ := hrel
      have HBr : Hid (Below w2.heap.size w2 wr) := hbr
      clear hbr
      by_cases hlt : k < n
      · have hltz : (k : Int) < (n : Int) := by omega
        have HNk : Hid (bits .andNot .i64 (M k) (pw k) = N k) := HN.out k hlt
        have HMk : Hid (M (k + 1) = if q k = true then M k else N k) := HM.out k hlt
        have HOk : Hid (Calls Tryd.prog 28 #[.slice xo xn xc, .int .i64 (N k)] wr fun e w' => e = .returned (.bool (q k)) ∧ Below wr.heap.size wr w') := HOi.out k hlt _ wr (HR2.out.below HBr.out)
        obtain ⟨Mk, hMk⟩ : ∃ x, x = M k := ⟨_, rfl⟩
        obtain ⟨Nk, hNk⟩ : ∃ x, x = N k := ⟨_, rfl⟩
        obtain ⟨qk, hqk⟩ : ∃ x, x = q k := ⟨_, rfl⟩
        rw [← hMk] at HNk HMk ⊢
        rw [← hNk] at HNk HMk HOk
        rw [← hqk] at HMk HOk
        clear hMk hNk hqk
        go_wp2_with fail
        go_at_call 31
        refine (coreBit_any k (by omega) _).mono ?_
        rintro e w' ⟨rfl, rfl⟩
        have hnk := HNk.out
        go_wp2_with fail
        go_at_call 28
        refine HOk.out.mono ?_
        rintro e w4 ⟨rfl, hb⟩
        have HB4 : Hid (Below w2.heap.size w2 w4) := HBr.out.trans (hb.mono HBr.out.size)
        clear hb hnk
        cases qk with
        | true =>
          go_wp2
          go_roundw
          case rel => exact ⟨k + 1, by omega, by go_num, by rw [HMk.out]; rfl, HB4.out⟩
          case measure => simp [intOf]; omega
        | false =>
          go_wp2
          go_roundw
          case rel => exact ⟨k + 1, by omega, by go_num, by rw [HMk.out]; rfl, HB4.out⟩
          case measure => simp [intOf]; omega
      · obtain rfl : k = n := by omega
        have HBw : Hid (Below w.heap.size w wr) := HB2.out.trans (HBr.out.mono HB2.out.size)
        go_wp2_with fail
        go_at_call 32
        refine (HPl.out _).mono ?_
        rintro e w4 ⟨⟨y, rfl, hr⟩, hb⟩
        have HB4 : Hid (Below w.heap.size w w4) := HBw.out.trans (hb.mono HBw.out.size)
        have HR4 : Hid (Reads w4 y c) := hr
        clear hb hr
        go_wp2
        go_ret2
        exact ⟨⟨_, rfl, HR4.out⟩, HB4.out⟩

set_option maxHeartbeats 4000000 in
theorem coreOf_bad (lo : Option Addr) (n lcap : Nat) (u F : Int) (w : World)
    (hH : Calls Tryd.prog 27 #[.slice lo n lcap, .int .i64 u] w fun e w' => (∃ x, e = .returned (.tuple #[x, .iface 64 (.int .i64 F)]) ∧ Reads w' x []) ∧ Below w.heap.size w w') :
    Calls Tryd.prog 14 #[.slice lo n lcap, .int .i64 u] w fun e w' => e = .returned (.tuple #[.slice none 0 0, .iface 64 (.int .i64 F)]) ∧ Below w.heap.size w w' := by
  have HH : Hid (Calls Tryd.prog 27 #[.slice lo n lcap, .int .i64 u] w fun e w' => (∃ x, e = .returned (.tuple #[x, .iface 64 (.int .i64 F)]) ∧ Reads w' x []) ∧ Below w.heap.size w w') := hH
  clear hH
  go_enter Tryd.func14, Tryd.ntmps14
  go_wp2_with fail
  go_at_call 27
  refine HH.out.mono ?_
  rintro e w1 ⟨⟨x, rfl, hr⟩, hb⟩
  have HB1 : Hid (Below w.heap.size w w1) := hb
  obtain ⟨xo, xn, xc, rfl⟩ : ∃ xo xn xc, x = .slice xo xn xc := by
    rcases hr with ⟨ao, cap, rfl, _⟩ | ⟨b, off, cap, rfl, _⟩
    · exact ⟨_, _, _, rfl⟩
    · exact ⟨_, _, _, rfl⟩
  clear hb hr
  go_wp2
  go_ret2
  exact ⟨rfl, HB1.out⟩
/-- which are enough not to be open, whatever they are. -/
theorem coreOf_any (v : Value) (fs : List Fm) (u : Int) (w : World) (hF : ReadsF w v fs) (hK : KindsLaid w) :
    Calls Tryd.prog 14 #[v, .int .i64 u] w fun e w' => (∃ x, e = .returned (.tuple #[x, errV (coreFault fs u)]) ∧ Reads w' x (coreL fs u)) ∧ Below w.heap.size w w' := by
  have hH := heldIn_any v fs u w hF hK
  obtain ⟨lo, lcap, rfl, _⟩ := hF.slice
  by_cases hf : formsFault fs u = 0
  · obtain ⟨⟨_, h6⟩, _, _⟩ := forms_zero.1 hf
    have e : openB fs u = openN fs u.toNat := by unfold openB; rw [if_pos hf]
    rw [hf, if_pos rfl] at hH
    have key := coreOf_in lo fs.length lcap u (heldL fs u.toNat) (openN fs u.toNat) (fun i => openN (leftF fs (putG (goneTo fs u.toNat i) i true)) u.toNat) (fun i => maskTo (fun k => !goneTo fs u.toNat i k) fs.length) (fun i => maskTo (fun k => !putG (goneTo fs u.toNat i) i true k) fs.length) (coreTo fs u.toNat fs.length) h6 w hH
      (fun W => coreAll_any lo _ lcap h6 W)
      (fun x W hx => by
        have h := isOpen_any x _ (maskTo (fun _ => true) fs.length) W hx
        rw [open_bits h6] at h
        exact h)
      (fun i _ x W hx => by
        have h := isOpen_any x _ (maskTo (fun k => !putG (goneTo fs u.toNat i) i true k) fs.length) W hx
        rw [held_open h6] at h
        exact h)
      (fun i hi => mask_less _ h6 hi)
      (fun i _ => by
        obtain ⟨s1, s2⟩ := left_step (fs := fs) (u := u.toNat) (n := fs.length) (i := i)
        cases hq : openN (leftF fs (putG (goneTo fs u.toNat i) i true)) u.toNat
        · exact s2 hq
        · exact s1 hq)
      (fun W => by
        have h := places_any (fun k => !goneTo fs u.toNat fs.length k) fs.length h6 W
        rw [places_core fs.length (Nat.le_refl _)] at h
        exact h)
    have ec : coreFault fs u = if openN fs u.toNat = true then 8 else 0 := by unfold coreFault; rw [if_pos hf, e]
    cases hq : openN fs u.toNat
    · rw [hq] at key ec
      rw [if_neg (by decide)] at ec
      have el : coreL fs u = coreTo fs u.toNat fs.length := by unfold coreL; rw [if_pos ec]
      rw [ec, el]
      exact key
    · rw [hq] at key ec
      rw [if_pos rfl] at ec
      have el : coreL fs u = [] := by unfold coreL; rw [if_neg (by rw [ec]; decide)]
      rw [ec, el]
      exact key
  · have e1 : coreFault fs u = formsFault fs u := by unfold coreFault; rw [if_neg hf]
    have e2 : errV (formsFault fs u) = .iface 64 (.int .i64 (formsFault fs u)) := by unfold errV; rw [if_neg hf]
    have e3 : coreL fs u = [] := by unfold coreL; rw [if_neg (by rw [e1]; exact hf)]
    rw [if_neg hf, e2] at hH
    rw [e1, e2, e3]
    exact (coreOf_bad lo _ lcap u _ w hH).mono fun e w' ⟨h1, h2⟩ => ⟨⟨_, h1, Or.inl ⟨none, 0, rfl, rfl⟩⟩, h2⟩
end Go.Proofs.YtjaedfjfcghgcaaDoor

namespace Go.Proofs.YtjaedfjfcghgcaaDoor
open Go.ChangeShapes Go.WideShapes Go.ChangeAt Go.RowKit Go.Deep
set_option maxRecDepth 100000

theorem kdG : Tryd.prog.globalNamed "vennhouse/atom.kinds" = some 0 := by kernel_rfl
theorem kdT : (Tryd.prog.globals[0]?).map (·.type) = some 103 := by kernel_rfl
theorem kdC : Tryd.prog.cellsOf 102 = 3 := by kernel_rfl
theorem kdA : Tryd.prog.cellsOf 103 = 18 := by kernel_rfl
theorem kdS : Tryd.prog.cellsOf 9 = 1 := by kernel_rfl
theorem kdB : Tryd.prog.cellsOf 4 = 1 := by kernel_rfl

theorem kind_of_trod {w : World} {cs : List Value} {fuel : Nat} {text : List UInt8} {b1 b2 : Bool} {y : DataW Unit × List MemPlace} (hy : y.1 = .agg [.lit (.string text), .lit (.bool b1), .lit (.bool b2)])
    (h : DataW.trod (fun _ => ()) Tryd.prog w 0 (fun _ => true) false fuel 102 cs = some y) : cs = [.string ⟨text.toArray⟩, .bool b1, .bool b2] := by
  obtain ⟨y0, y1, y2, n, e, hl, t0, t1, t2⟩ := trod_struct3 Tryd.underlying102 h
  rw [kdC] at hl
  obtain ⟨c0, c1, c2, rfl⟩ : ∃ c0 c1 c2, cs = [c0, c1, c2] := by
    match cs, hl with
    | [a, b, c], _ => exact ⟨a, b, c, rfl⟩
  · simp only [kdS, kdB] at t0 t1 t2
    obtain ⟨s, e0, f0, _⟩ := DataW.trod_string Tryd.underlying9 t0
    obtain ⟨x1, e1, f1⟩ := DataW.trod_bool Tryd.underlying4 t1
    obtain ⟨x2, e2, f2⟩ := DataW.trod_bool Tryd.underlying4 t2
    simp at e0 e1 e2
    subst e0 e1 e2
    subst f0 f1 f2
    subst e
    simp at hy
    obtain ⟨rfl, rfl, rfl⟩ := hy
    rfl

theorem kinds_of_head {r : List (String × DataW Unit)} {W : World} (h : laidMet Tryd.prog (("vennhouse/atom.kinds", Rows.laid_vennhouse_atom_kinds) :: r) W) : KindsLaid W := by
  obtain ⟨ps, ⟨g0, t0, cs0, f0, p0, q0, hg0, ht0, hv0, hd0, _, e0⟩, _, hrows⟩ := h
  obtain rfl := Option.some.inj (kdG.symm.trans hg0)
  obtain rfl := Option.some.inj (kdT.symm.trans ht0)
  obtain ⟨xs, m, _, hx, hlen, hxl, hi⟩ := DataW.trod_array Tryd.underlying103 hd0
  simp only [kdC] at hi
  rw [kdA] at hlen
  have hx1 : Rows.laid_vennhouse_atom_kinds = .agg (xs.map (·.1)) := congrArg Prod.fst hx
  obtain ⟨a0, a1, a2, a3, a4, a5, rfl⟩ : ∃ a0 a1 a2 a3 a4 a5, xs = [a0, a1, a2, a3, a4, a5] := by
    match xs, hxl with
    | [a, b, c, d, e, f], _ => exact ⟨a, b, c, d, e, f, rfl⟩
  · unfold Rows.laid_vennhouse_atom_kinds at hx1
    simp only [List.map, DataW.agg.injEq, List.cons.injEq, and_true] at hx1
    obtain ⟨g0, g1, g2, g3, g4, g5⟩ := hx1
    have k0 := kind_of_trod g0.symm (hi 0 (by decide))
    have k1 := kind_of_trod g1.symm (hi 1 (by decide))
    have k2 := kind_of_trod g2.symm (hi 2 (by decide))
    have k3 := kind_of_trod g3.symm (hi 3 (by decide))
    have k4 := kind_of_trod g4.symm (hi 4 (by decide))
    have k5 := kind_of_trod g5.symm (hi 5 (by decide))
    have hl : cs0.toList = kindCells := by
      have e : cs0.toList = (cs0.toList.drop (0 * 3)).take 3 ++ ((cs0.toList.drop (1 * 3)).take 3 ++ ((cs0.toList.drop (2 * 3)).take 3 ++ ((cs0.toList.drop (3 * 3)).take 3 ++ ((cs0.toList.drop (4 * 3)).take 3 ++ ((cs0.toList.drop (5 * 3)).take 3))))) := by
        match cs0.toList, hlen with
        | [_, _, _, _, _, _, _, _, _, _, _, _, _, _, _, _, _, _], _ => rfl
      rw [e, k0, k1, k2, k3, k4, k5]
      rfl
    intro j hj
    have hc := World.var?_cell kdG hv0 j
    rw [hc]
    have : cs0[j]? = cs0.toList[j]? := by simp
    rw [this, hl]
    have hj' : j < kindCells.length := hj
    simp [List.getElem?_eq_getElem hj']
end Go.Proofs.YtjaedfjfcghgcaaDoor

namespace Go.Proofs.YtjaedfjfcghgcaaDoor
open Go.ChangeShapes Go.WideShapes Go.ChangeAt Go.RowKit

theorem ownK : ownKnob Tryd.prog.godebug = none := by kernel_rfl
theorem etG : Tryd.prog.globalNamed "errors.errorType" = some 1 := by kernel_rfl
theorem rtT : (Tryd.prog.cutTypes.find? (·.1 == "internal/reflectlite.rtype")).map (·.2) = some 141 := by kernel_rfl
theorem oneRow : ((List.range 193).filter fun t => Tryd.prog.rowNamed t [101, 114, 114, 111, 114]) = [26] := by kernel_rfl
theorem sizeT : Tryd.prog.types.size = 193 := by kernel_rfl
theorem handleE : typeHandle Tryd.prog 26 = .pointer (some ⟨2, 26, none⟩) := by kernel_rfl

def laidE : List (String × DataW Unit) := [("errors.errorType", Rows.laid_errors_errorType)]

/-- what the condition gives a walk: the variable's one cell. -/
theorem laid_of_met {W : World} (h : laidMetH Tryd.prog laidE W) : Laid W := by
  have h' : laidMet Tryd.prog [] W ∧ handlesMet Tryd.prog laidE W := h
  obtain ⟨name, u, ty, e1, e2, e3, e4, e5⟩ := h'.2 _ (List.mem_singleton.2 rfl)
  have en : name = [101, 114, 114, 111, 114] := (Option.some.inj e1).symm
  subst en
  obtain rfl := Option.some.inj (rtT.symm.trans e2)
  have hm : ty ∈ (List.range 193).filter fun t => Tryd.prog.rowNamed t [101, 114, 114, 111, 114] := List.mem_filter.2 ⟨List.mem_range.2 (by rw [← sizeT]; exact e3), e4⟩
  rw [oneRow] at hm
  obtain rfl := List.mem_singleton.1 hm
  rw [handleE] at e5
  simpa [Laid] using World.var?_cell etG e5 0

/-- the heap that the door's own run leaves meets the condition. -/
theorem door_met (os : Os) (args : Array Value) : laidMetH Tryd.prog laidE ((World.doorLaid Tryd.prog 400 os).forCall (fun _ _ => 0) ⟨#[], args, []⟩).memory :=
  laidMetH_of_parts3 (fuel := 8) (laidMet_of_run' 8 (by kernel_rfl) (by kernel_rfl)) (by kernel_rfl) (by kernel_rfl)
end Go.Proofs.YtjaedfjfcghgcaaDoor

namespace Go.Proofs.YtjaedfjfcghgcaaDoor
open Go.ChangeShapes Go.WideShapes Go.ChangeAt Go.RowKit
set_option maxRecDepth 100000

def laidT : List (String × DataW Unit) := [("errors.errorType", Rows.laid_errors_errorType), ("vennhouse/atom.kinds", Rows.laid_vennhouse_atom_kinds)]
theorem form_of_met {W : World} (h : laidMetH Tryd.prog laidT W) : Laid W ∧ KindsLaid W := by
  have h' : laidMet Tryd.prog [("vennhouse/atom.kinds", Rows.laid_vennhouse_atom_kinds)] W ∧ handlesMet Tryd.prog laidE W := h
  refine ⟨?_, kinds_of_head h'.1⟩
  obtain ⟨name, u, ty, e1, e2, e3, e4, e5⟩ := h'.2 _ (List.mem_singleton.2 rfl)
  have en : name = [101, 114, 114, 111, 114] := (Option.some.inj e1).symm
  subst en
  obtain rfl := Option.some.inj (rtT.symm.trans e2)
  have hm : ty ∈ (List.range 193).filter fun t => Tryd.prog.rowNamed t [101, 114, 114, 111, 114] := List.mem_filter.2 ⟨List.mem_range.2 (by rw [← sizeT]; exact e3), e4⟩
  rw [oneRow] at hm
  obtain rfl := List.mem_singleton.1 hm
  rw [handleE] at e5
  simpa [Laid] using World.var?_cell etG e5 0
theorem doorT_met (os : Os) (args : Array Value) : laidMetH Tryd.prog laidT ((World.doorLaid Tryd.prog 400 os).forCall (fun _ _ => 0) ⟨#[], args, []⟩).memory :=
  laidMetH_of_parts3 (fuel := 8) (laidMet_of_run' 8 (by kernel_rfl) (by kernel_rfl)) (by kernel_rfl) (by kernel_rfl)
end Go.Proofs.YtjaedfjfcghgcaaDoor

namespace Go.Proofs.YtjaedfjfcghgcaaDoor
open Go.ChangeShapes Go.WideShapes Go.ChangeAt Go.RowKit Go.WideMaps Go.WideElems
open Go.ChangeMaps (open_string)

theorem laidOutA : laidOutB Tryd.prog = true := by kernel_rfl
theorem cellsInt : Tryd.prog.cellsOf 3 = 1 := by kernel_rfl
theorem cellsWorld : Tryd.prog.cellsOf 37 = 4 := by kernel_rfl
theorem cellsArr : Tryd.prog.cellsOf 35 = 3 := by kernel_rfl

set_option maxRecDepth 100000 in
theorem reads_arg {H : Type} {enc : TypeId × Value → H} {W : World} {v : Value} {d : DataW H} {p : List MemPlace} {r : Reach} {b0 : Nat} (hv : Value.okWide Tryd.prog W r b0 30 v) (h : DataW.Trod enc Tryd.prog W 0 (fun _ => true) true 30 v d p) :
    ∃ t, Reads W v t := by
  obtain ⟨a0, len, cap, rfl⟩ := okWide_slice Tryd.underlying30 hv
  obtain ⟨fuel, hf⟩ := h
  rcases open_ints Tryd.underlying30 Tryd.underlying3 cellsInt hf with ⟨hcs, hx⟩ | ⟨a, len', cap', zs, hcs, _, hl, hm, hz, hx, hcell, hwz⟩
  · simp [Value.cells] at hcs
    obtain ⟨rfl, rfl, rfl⟩ := hcs
    exact ⟨[], Or.inl ⟨none, 0, rfl, rfl⟩⟩
  · simp [Value.cells] at hcs
    obtain ⟨rfl, rfl, rfl⟩ := hcs
    rw [if_pos rfl] at hz
    rcases Nat.eq_zero_or_pos len with h0 | h0
    · subst h0; exact ⟨[], Or.inl ⟨_, _, rfl, rfl⟩⟩
    · obtain ⟨b, off, rfl, hc⟩ := ints_at hcell (by omega)
      have hlen : (zs.take len).length = len := by rw [List.length_take]; omega
      unfold maxLen at hm
      refine ⟨zs.take len, Or.inr ⟨b, off, cap, by rw [hlen], ?_, by omega, ⟨by omega, by omega⟩, fun k hk => ?_⟩⟩
      · exact World.block_lt_of_cell? W ⟨b, off, none⟩ (hc 0 (by omega))
      · rw [hc k (by omega)]
        rw [hlen] at hk
        simp [hk]
set_option maxRecDepth 100000 in
theorem world_arg {H : Type} {enc : TypeId × Value → H} {W : World} {v : Value} {d : DataW H} {p : List MemPlace} {r : Reach} {b0 : Nat} (hv : Value.okWide Tryd.prog W r b0 37 v) (h : DataW.Trod enc Tryd.prog W 0 (fun _ => true) true 37 v d p) :
    ∃ u a b c : Int, v = .agg #[.int .i64 u, .int .i64 a, .int .i64 b, .int .i64 c] := by
  obtain ⟨cs, rfl, hsz⟩ := okWide_struct Tryd.underlying37 hv
  obtain ⟨c0, c1, c2, c3, rfl⟩ := Go.Joins.array4 (hsz.trans cellsWorld)
  obtain ⟨fuel, hf⟩ := h
  obtain ⟨y0, y1, n, _, _, h0, h1⟩ := trod_struct2 Tryd.underlying37 hf
  simp only [Value.cells, cellsInt, cellsArr] at h0 h1
  obtain ⟨u, e0, _, _⟩ := DataW.trod_int Tryd.underlying3 h0
  obtain ⟨xs, m, _, _, _, hxl, hx⟩ := DataW.trod_array Tryd.underlying35 h1
  have g0 := hx 0 (by omega)
  have g1 := hx 1 (by omega)
  have g2 := hx 2 (by omega)
  simp only [cellsInt] at g0 g1 g2
  rw [List.getElem?_eq_getElem (show 0 < xs.length by omega)] at g0
  rw [List.getElem?_eq_getElem (show 1 < xs.length by omega)] at g1
  rw [List.getElem?_eq_getElem (show 2 < xs.length by omega)] at g2
  obtain ⟨a, ea, _, _⟩ := DataW.trod_int Tryd.underlying3 g0
  obtain ⟨b, eb, _, _⟩ := DataW.trod_int Tryd.underlying3 g1
  obtain ⟨c, ec, _, _⟩ := DataW.trod_int Tryd.underlying3 g2
  simp at e0 ea eb ec
  subst e0 ea eb ec
  exact ⟨u, a, b, c, rfl⟩

set_option maxRecDepth 100000 in
theorem string_arg {H : Type} {enc : TypeId × Value → H} {W : World} {v : Value} {d : DataW H} {p : List MemPlace} {r : Reach} {b0 : Nat} (hv : Value.okWide Tryd.prog W r b0 9 v) (h : DataW.Trod enc Tryd.prog W 0 (fun _ => true) true 9 v d p) :
    ∃ s : ByteArray, v = .string s ∧ s.size ≤ 9223372036854775807 := by
  obtain ⟨s, rfl, _, _, hs⟩ := open_string Tryd.underlying9 hv h
  exact ⟨s, rfl, hs⟩
set_option maxRecDepth 100000 in
theorem int_arg {H : Type} {enc : TypeId × Value → H} {W : World} {v : Value} {d : DataW H} {p : List MemPlace} {r : Reach} {b0 : Nat} (hv : Value.okWide Tryd.prog W r b0 3 v) (h : DataW.Trod enc Tryd.prog W 0 (fun _ => true) true 3 v d p) :
    ∃ n : Int, v = .int .i64 n := by
  obtain ⟨n, rfl, _⟩ := open_int Tryd.underlying3 hv h
  exact ⟨n, rfl⟩
set_option maxRecDepth 100000 in
/-- a slice of numbers is no longer than its capacity. -/
theorem cap_arg {H : Type} {enc : TypeId × Value → H} {W : World} {v : Value} {d : DataW H} {p : List MemPlace} {r : Reach} {b0 : Nat} (hv : Value.okWide Tryd.prog W r b0 30 v) (h : DataW.Trod enc Tryd.prog W 0 (fun _ => true) true 30 v d p) :
    ∃ ao len cap, v = .slice ao len cap ∧ len ≤ cap := by
  obtain ⟨a0, len, cap, rfl⟩ := okWide_slice Tryd.underlying30 hv
  obtain ⟨fuel, hf⟩ := h
  rcases open_ints Tryd.underlying30 Tryd.underlying3 cellsInt hf with ⟨hcs, hx⟩ | ⟨a, len', cap', zs, hcs, _, hl, _⟩
  · simp [Value.cells] at hcs
    obtain ⟨rfl, rfl, rfl⟩ := hcs
    exact ⟨_, _, _, rfl, Nat.le_refl _⟩
  · simp [Value.cells] at hcs
    obtain ⟨rfl, rfl, rfl⟩ := hcs
    exact ⟨_, _, _, rfl, hl⟩
end Go.Proofs.YtjaedfjfcghgcaaDoor

namespace Go.Proofs.YtjaedfjfcghgcaaDoor
open Go.ChangeShapes Go.WideShapes Go.ChangeAt Go.RowKit Go.WideMaps Go.WideElems
set_option maxRecDepth 100000

theorem cellsAtom : Tryd.prog.cellsOf 39 = 4 := by kernel_rfl
theorem cellsInts : Tryd.prog.cellsOf 30 = 1 := by kernel_rfl

theorem reads_trod {H : Type} {enc : TypeId × Value → H} {W : World} {fuel : Nat} {cs : List Value} {x : DataW H × List MemPlace} (h : DataW.trod enc Tryd.prog W 0 (fun _ => true) true fuel 30 cs = some x) :
    ∃ v t, cs = [v] ∧ Reads W v t := by
  rcases open_ints Tryd.underlying30 Tryd.underlying3 cellsInt h with ⟨hcs, hx⟩ | ⟨a, len, cap, zs, hcs, _, hl, hm, hz, hx, hcell, hwz⟩
  · exact ⟨_, [], hcs, Or.inl ⟨none, 0, rfl, rfl⟩⟩
  · refine ⟨_, zs.take len, hcs, ?_⟩
    rw [if_pos rfl] at hz
    rcases Nat.eq_zero_or_pos len with h0 | h0
    · subst h0; exact Or.inl ⟨_, _, rfl, rfl⟩
    · obtain ⟨b, off, rfl, hc⟩ := ints_at hcell (by omega)
      have hlen : (zs.take len).length = len := by rw [List.length_take]; omega
      unfold maxLen at hm
      refine Or.inr ⟨b, off, cap, by rw [hlen], ?_, by omega, ⟨by omega, by omega⟩, fun k hk => ?_⟩
      · exact World.block_lt_of_cell? W ⟨b, off, none⟩ (hc 0 (by omega))
      · rw [hc k (by omega)]
        rw [hlen] at hk
        simp [hk]
theorem atom_trod {H : Type} {enc : TypeId × Value → H} {W : World} {fuel : Nat} {cs : List Value} {x : DataW H × List MemPlace} (h : DataW.trod enc Tryd.prog W 0 (fun _ => true) true fuel 39 cs = some x) :
    ∃ k vs vt n s t, cs = [.int .i64 k, vs, vt, .int .i64 n] ∧ Reads W vs s ∧ Reads W vt t := by
  obtain ⟨y0, y1, y2, y3, n, _, hl, h0, h1, h2, h3⟩ := Go.Joins.trod_struct4 Tryd.underlying39 h
  rw [cellsAtom] at hl
  obtain ⟨c0, c1, c2, c3, rfl⟩ : ∃ c0 c1 c2 c3, cs = [c0, c1, c2, c3] := by
    match cs, hl with
    | [a, b, c, d], _ => exact ⟨a, b, c, d, rfl⟩
  simp only [cellsInt, cellsInts] at h0 h1 h2 h3
  obtain ⟨k, e0, _, _⟩ := DataW.trod_int Tryd.underlying3 h0
  obtain ⟨vs, s, e1, r1⟩ := reads_trod h1
  obtain ⟨vt, t, e2, r2⟩ := reads_trod h2
  obtain ⟨m, e3, _, _⟩ := DataW.trod_int Tryd.underlying3 h3
  simp at e0 e1 e2 e3
  subst e0 e1 e2 e3
  exact ⟨k, _, _, m, s, t, rfl, r1, r2⟩
theorem atom_arg {H : Type} {enc : TypeId × Value → H} {W : World} {v : Value} {d : DataW H} {p : List MemPlace} {r : Reach} {b0 : Nat} (hv : Value.okWide Tryd.prog W r b0 39 v) (h : DataW.Trod enc Tryd.prog W 0 (fun _ => true) true 39 v d p) :
    ∃ k n vs vt s t, v = .agg #[.int .i64 k, vs, vt, .int .i64 n] ∧ Reads W vs s ∧ Reads W vt t := by
  obtain ⟨cs, rfl, hsz⟩ := okWide_struct Tryd.underlying39 hv
  obtain ⟨c0, c1, c2, c3, rfl⟩ := Go.Joins.array4 (hsz.trans cellsAtom)
  obtain ⟨fuel, hf⟩ := h
  obtain ⟨k, vs, vt, n, s, t, e, r1, r2⟩ := atom_trod hf
  simp [Value.cells] at e
  obtain ⟨rfl, rfl, rfl, rfl⟩ := e
  exact ⟨k, n, _, _, s, t, rfl, r1, r2⟩
end Go.Proofs.YtjaedfjfcghgcaaDoor

namespace Go.Proofs.YtjaedfjfcghgcaaDoor
open Go.ChangeShapes Go.WideShapes Go.ChangeAt Go.RowKit Go.WideMaps Go.WideElems
set_option maxRecDepth 100000

theorem cellsForm : Tryd.prog.cellsOf 42 = 2 := by kernel_rfl
theorem cellsAtoms : Tryd.prog.cellsOf 40 = 1 := by kernel_rfl

theorem atoms_of {w : World} (b off : Nat) (n : Nat) (h : ∀ i, i < n → ∃ a : At, AtomAt w b (off + i * 4) a) : ∃ ats : List At, ats.length = n ∧ ∀ i a, ats[i]? = some a → AtomAt w b (off + i * 4) a := by
  induction n with
  | zero => exact ⟨[], rfl, fun i a h => by simp at h⟩
  | succ n ih =>
    obtain ⟨ats, hl, ha⟩ := ih (fun i hi => h i (by omega))
    obtain ⟨a, haa⟩ := h n (by omega)
    refine ⟨ats ++ [a], by simp [hl], fun i x hx => ?_⟩
    rcases Nat.lt_or_ge i n with hi | hi
    · rw [List.getElem?_append_left (by omega)] at hx; exact ha i x hx
    · rw [List.getElem?_append_right (by omega), hl] at hx
      obtain rfl : i = n := by
        have := (List.getElem?_eq_some_iff.1 hx).1
        simp at this; omega
      simp at hx
      subst hx
      exact haa
theorem atoms_trod {H : Type} {enc : TypeId × Value → H} {W : World} {fuel : Nat} {cs : List Value} {x : DataW H × List MemPlace} (h : DataW.trod enc Tryd.prog W 0 (fun _ => true) true fuel 40 cs = some x) :
    ∃ v ats, cs = [v] ∧ ReadsA W v ats := by
  rcases Go.Deep.open_slice Tryd.underlying40 h with ⟨hcs, _⟩ | ⟨a, len, cap, m, n, D, Pl, hcs, _, hl, hm, hmm, _, hx⟩
  · exact ⟨_, [], hcs, Or.inl ⟨none, 0, rfl, rfl⟩⟩
  · rw [if_pos rfl] at hmm
    rcases Nat.eq_zero_or_pos len with h0 | h0
    · subst h0; exact ⟨_, [], hcs, Or.inl ⟨_, _, rfl, rfl⟩⟩
    · obtain ⟨b, off, spot⟩ := a
      have cell : ∀ i, i < m → ∀ j, j < 4 → ∃ cs', DataW.trod enc Tryd.prog W 0 (fun _ => true) true n 39 cs' = some (D i, Pl i) ∧ ∀ j, j < 4 → W.cell? ((Addr.add ⟨b, off, spot⟩ (i * 4)).add j) = cs'[j]? := by
        intro i hi j hj
        obtain ⟨cs', h1, h2⟩ := hx i hi
        rw [cellsAtom] at h1
        exact ⟨cs', h2, (World.cells?_some h1).2.2⟩
      have hspot : spot = none := by
        obtain ⟨cs', h2, hc⟩ := cell 0 (by omega) 0 (by omega)
        obtain ⟨k, vs, vt, n', s, t, rfl, _, _⟩ := atom_trod h2
        have := hc 0 (by omega)
        simpa [Addr.add] using World.cell?_spot this
      subst hspot
      obtain ⟨ats, hlen, has⟩ := atoms_of (w := W) b off len (fun i hi => by
        obtain ⟨cs', h2, hc⟩ := cell i (by omega) 0 (by omega)
        obtain ⟨k, vs, vt, n', s, t, rfl, r1, r2⟩ := atom_trod h2
        refine ⟨⟨k, s, t, n'⟩, vs, vt, ?_, ?_, ?_, ?_, r1, r2⟩
        · have := hc 0 (by omega)
          rw [Go.WideShapes.add_plain, Go.WideShapes.add_plain] at this
          simpa using this
        · have := hc 1 (by omega)
          rw [Go.WideShapes.add_plain, Go.WideShapes.add_plain] at this
          simpa using this
        · have := hc 2 (by omega)
          rw [Go.WideShapes.add_plain, Go.WideShapes.add_plain] at this
          simpa using this
        · have := hc 3 (by omega)
          rw [Go.WideShapes.add_plain, Go.WideShapes.add_plain] at this
          simpa using this)
      unfold maxLen at hm
      refine ⟨_, ats, hcs, Or.inr ⟨b, off, cap, by rw [hlen], ?_, by omega, ⟨by omega, by omega⟩, has⟩⟩
      obtain ⟨vs, vt, h1, _⟩ := has 0 (ats[0]'(by omega)) (List.getElem?_eq_getElem _)
      exact World.block_lt_of_cell? W ⟨b, off + 0 * 4, none⟩ h1
theorem form_arg {H : Type} {enc : TypeId × Value → H} {W : World} {v : Value} {d : DataW H} {p : List MemPlace} {r : Reach} {b0 : Nat} (hv : Value.okWide Tryd.prog W r b0 42 v) (h : DataW.Trod enc Tryd.prog W 0 (fun _ => true) true 42 v d p) :
    ∃ va vc ats c, v = .agg #[va, vc] ∧ ReadsA W va ats ∧ Reads W vc c := by
  obtain ⟨cs, rfl, hsz⟩ := okWide_struct Tryd.underlying42 hv
  obtain ⟨c0, c1, rfl⟩ : ∃ c0 c1, cs = #[c0, c1] := by
    obtain ⟨l⟩ := cs
    match l, hsz.trans cellsForm with
    | [c0, c1], _ => exact ⟨c0, c1, rfl⟩
  obtain ⟨fuel, hf⟩ := h
  obtain ⟨y0, y1, n, _, _, h0, h1⟩ := trod_struct2 Tryd.underlying42 hf
  simp only [Value.cells, cellsAtoms, cellsInts] at h0 h1
  obtain ⟨va, ats, e0, r0⟩ := atoms_trod h0
  obtain ⟨vc, c, e1, r1⟩ := reads_trod h1
  simp at e0 e1
  subst e0 e1
  exact ⟨_, _, ats, c, rfl, r0, r1⟩
end Go.Proofs.YtjaedfjfcghgcaaDoor

namespace Go.Proofs.YtjaedfjfcghgcaaDoor
open Go.ChangeShapes Go.WideShapes Go.ChangeAt Go.RowKit Go.WideMaps Go.WideElems
set_option maxRecDepth 100000

theorem form_trod {H : Type} {enc : TypeId × Value → H} {W : World} {fuel : Nat} {cs : List Value} {x : DataW H × List MemPlace} (h : DataW.trod enc Tryd.prog W 0 (fun _ => true) true fuel 42 cs = some x) :
    ∃ va vc ats c, cs = [va, vc] ∧ ReadsA W va ats ∧ Reads W vc c := by
  obtain ⟨y0, y1, n, _, hl, h0, h1⟩ := trod_struct2 Tryd.underlying42 h
  rw [cellsForm] at hl
  obtain ⟨c0, c1, rfl⟩ : ∃ c0 c1, cs = [c0, c1] := by
    match cs, hl with
    | [a, b], _ => exact ⟨a, b, rfl⟩
  simp only [cellsAtoms, cellsInts] at h0 h1
  obtain ⟨va, ats, e0, r0⟩ := atoms_trod h0
  obtain ⟨vc, c, e1, r1⟩ := reads_trod h1
  simp at e0 e1
  subst e0 e1
  exact ⟨_, _, ats, c, rfl, r0, r1⟩
theorem forms_of {w : World} (b off : Nat) (n : Nat) (h : ∀ i, i < n → ∃ f : Fm, FormAt w b (off + i * 2) f) : ∃ fs : List Fm, fs.length = n ∧ ∀ i f, fs[i]? = some f → FormAt w b (off + i * 2) f := by
  induction n with
  | zero => exact ⟨[], rfl, fun i a h => by simp at h⟩
  | succ n ih =>
    obtain ⟨fs, hl, ha⟩ := ih (fun i hi => h i (by omega))
    obtain ⟨a, haa⟩ := h n (by omega)
    refine ⟨fs ++ [a], by simp [hl], fun i x hx => ?_⟩
    rcases Nat.lt_or_ge i n with hi | hi
    · rw [List.getElem?_append_left (by omega)] at hx; exact ha i x hx
    · rw [List.getElem?_append_right (by omega), hl] at hx
      obtain rfl : i = n := by
        have := (List.getElem?_eq_some_iff.1 hx).1
        simp at this; omega
      simp at hx
      subst hx
      exact haa
theorem forms_trod {H : Type} {enc : TypeId × Value → H} {W : World} {fuel : Nat} {cs : List Value} {x : DataW H × List MemPlace} (h : DataW.trod enc Tryd.prog W 0 (fun _ => true) true fuel 22 cs = some x) :
    ∃ v fs, cs = [v] ∧ ReadsF W v fs := by
  rcases Go.Deep.open_slice Tryd.underlying22 h with ⟨hcs, _⟩ | ⟨a, len, cap, m, n, D, Pl, hcs, _, hl, hm, hmm, _, hx⟩
  · exact ⟨_, [], hcs, Or.inl ⟨none, 0, rfl, rfl⟩⟩
  · rw [if_pos rfl] at hmm
    rcases Nat.eq_zero_or_pos len with h0 | h0
    · subst h0; exact ⟨_, [], hcs, Or.inl ⟨_, _, rfl, rfl⟩⟩
    · obtain ⟨b, off, spot⟩ := a
      have cell : ∀ i, i < m → ∃ cs', DataW.trod enc Tryd.prog W 0 (fun _ => true) true n 42 cs' = some (D i, Pl i) ∧ ∀ j, j < 2 → W.cell? ((Addr.add ⟨b, off, spot⟩ (i * 2)).add j) = cs'[j]? := by
        intro i hi
        obtain ⟨cs', h1, h2⟩ := hx i hi
        rw [cellsForm] at h1
        exact ⟨cs', h2, (World.cells?_some h1).2.2⟩
      have hspot : spot = none := by
        obtain ⟨cs', h2, hc⟩ := cell 0 (by omega)
        obtain ⟨va, vc, ats, c, rfl, _, _⟩ := form_trod h2
        have := hc 0 (by omega)
        simpa [Addr.add] using World.cell?_spot this
      subst hspot
      obtain ⟨fs, hlen, has⟩ := forms_of (w := W) b off len (fun i hi => by
        obtain ⟨cs', h2, hc⟩ := cell i (by omega)
        obtain ⟨va, vc, ats, c, rfl, r1, r2⟩ := form_trod h2
        refine ⟨⟨ats, c⟩, va, vc, ?_, ?_, r1, r2⟩
        · have := hc 0 (by omega)
          rw [Go.WideShapes.add_plain, Go.WideShapes.add_plain] at this
          simpa using this
        · have := hc 1 (by omega)
          rw [Go.WideShapes.add_plain, Go.WideShapes.add_plain] at this
          simpa using this)
      unfold maxLen at hm
      refine ⟨_, fs, hcs, Or.inr ⟨b, off, cap, by rw [hlen], ?_, by omega, ⟨by omega, by omega⟩, has⟩⟩
      obtain ⟨va, vc, h1, _⟩ := has 0 (fs[0]'(by omega)) (List.getElem?_eq_getElem _)
      exact World.block_lt_of_cell? W ⟨b, off + 0 * 2, none⟩ h1
theorem forms_arg {H : Type} {enc : TypeId × Value → H} {W : World} {v : Value} {d : DataW H} {p : List MemPlace} {r : Reach} {b0 : Nat} (hv : Value.okWide Tryd.prog W r b0 22 v) (h : DataW.Trod enc Tryd.prog W 0 (fun _ => true) true 22 v d p) :
    ∃ fs, ReadsF W v fs := by
  obtain ⟨a0, len, cap, rfl⟩ := okWide_slice Tryd.underlying22 hv
  obtain ⟨fuel, hf⟩ := h
  obtain ⟨u, fs, e, hr⟩ := forms_trod hf
  simp [Value.cells] at e
  subst e
  exact ⟨fs, hr⟩
end Go.Proofs.YtjaedfjfcghgcaaDoor
