/-
  Proved: what strings.IndexRune returns at the nine letters of a rune beyond ASCII, and what Parse's own function returns of any rune; what was in memory is as it was (contracts that the statements lean on).
-/
import Derived.Test.YtenmheenieifpabGreatDoorTermLetters
import Derived.Scope
import Derived.WalkMore
namespace Go.Proofs.YtenmheenieifpabGreatDoor
open Go.ChangeShapes Go.WideShapes Go.ChangeAt Go.RowKit
set_option maxRecDepth 100000

theorem noHigh_any (s : ByteArray) (k : Nat) (hk : k ≤ 9) (hs : s.data.toList = letterL.drop k) (b : UInt8) (hb : 128 ≤ b.toNat) (W : World) :
    Calls Tryz.prog 58 #[.string s, .int .u8 (b.toNat : Int)] W fun e w' => e = .returned (.int .i64 (-1)) ∧ w' = W := by
  have := indexByte_any s (b.toNat : Int) W
  have e : Lib.indexByte s.data.toList (b.toNat : Int).toNat.toUInt8 = -1 := by
    rw [hs, ← no_high k hk b hb, Int.toNat_natCast]
    congr 1
    simp
  rw [e] at this
  exact this.mono fun _ _ h => (And.intro h.1 h.2.symm)

set_option maxRecDepth 100000 in
set_option maxHeartbeats 4000000 in
theorem indexRune_two (r : Int) (h0 : 128 ≤ r) (h1 : r < 2048) (x0 x1 : UInt8) (hE : Utf8.encode r = { data := #[x0, x1] }) (hy : 128 ≤ (x1.toNat : Int)) (w : World) :
    Calls Tryz.prog 77 #[.string { data := #[65, 66, 67, 48, 49, 43, 42, 45, 126] }, .int .i32 r] w fun e w' => e = .returned (.int .i64 (-1)) ∧ Below w.heap.size w w' := by
  have hcv : ∀ W, (convert 21 9 (.int .i32 r)).run Tryz.prog W = .ok (.string { data := #[x0, x1] }) W := fun W => by
    rw [run_convert_int_string W 21 9 .i32 r (by kernel_rfl) (by kernel_rfl), hE]
  have HV : Hid (∀ W, Calls Tryz.prog 96 #[.int .i32 r] W fun e w' => e = .returned (.bool true) ∧ W = w') := fun W => validRune_ok r (by omega) (by omega) W
  have hneq : (((((ByteArray.mk #[65, 66, 67, 48, 49, 43, 42, 45, 126])[1]'(by decide)).toNat : Nat) : Int) != ((((ByteArray.mk #[x0, x1])[1]'(by simp [ByteArray.size])).toNat : Nat) : Int)) = true := by
    show ((66 : Int) != (x1.toNat : Int)) = true
    simp; omega
  have HY : Hid (128 ≤ x1.toNat) := by unfold Hid; omega
  clear hE hy
  go_enter Tryz.func77, Tryz.ntmps77
  go_wp2_with (go_at_call 96; refine (HV.out _).mono ?_; rintro e w' ⟨rfl, rfl⟩)
  go_step3
  go_wp2
  refine wp_loop_rounds 1 ?_
  rw [rounds_succ]
  go_wp2_with fail
  go_step3
  go_wp2_with fail
  go_quiet (fail)
  go_wp2_with fail
  go_quiet (first | (go_at_call 58; exact (noHigh_any _ 2 (by omega) rfl x1 HY.out _).mono fun _ _ h => ⟨h.1, _, h.2⟩))
  go_wp2
  simp only [Exit.noGoto_ret, Exit.inBlock, Exit.then]
  go_ret
  exact ⟨rfl, below_drewNs _ _⟩

set_option maxRecDepth 100000 in
set_option maxHeartbeats 4000000 in
theorem indexRune_three (r : Int) (h0 : 2048 ≤ r) (h1 : r < 65536) (hne : ¬ r = 65533) (hsur : r < 55296 ∨ 57343 < r) (x0 x1 x2 : UInt8) (hE : Utf8.encode r = { data := #[x0, x1, x2] }) (hy : 128 ≤ (x2.toNat : Int)) (w : World) :
    Calls Tryz.prog 77 #[.string { data := #[65, 66, 67, 48, 49, 43, 42, 45, 126] }, .int .i32 r] w fun e w' => e = .returned (.int .i64 (-1)) ∧ Below w.heap.size w w' := by
  have hcv : ∀ W, (convert 21 9 (.int .i32 r)).run Tryz.prog W = .ok (.string { data := #[x0, x1, x2] }) W := fun W => by
    rw [run_convert_int_string W 21 9 .i32 r (by kernel_rfl) (by kernel_rfl), hE]
  have HV : Hid (∀ W, Calls Tryz.prog 96 #[.int .i32 r] W fun e w' => e = .returned (.bool true) ∧ W = w') := fun W => validRune_ok r (by omega) (by omega) W
  have hne1 : (r == 65533) = false := by simpa using hne
  clear hne
  have hneq : (((((ByteArray.mk #[65, 66, 67, 48, 49, 43, 42, 45, 126])[2]'(by decide)).toNat : Nat) : Int) != ((((ByteArray.mk #[x0, x1, x2])[2]'(by simp [ByteArray.size])).toNat : Nat) : Int)) = true := by
    show ((67 : Int) != (x2.toNat : Int)) = true
    simp; omega
  have HY : Hid (128 ≤ x2.toNat) := by unfold Hid; omega
  clear hE hy
  go_enter Tryz.func77, Tryz.ntmps77
  go_wp2_with (go_at_call 96; refine (HV.out _).mono ?_; rintro e w' ⟨rfl, rfl⟩)
  go_step3
  go_wp2
  refine wp_loop_rounds 1 ?_
  rw [rounds_succ]
  go_wp2_with fail
  go_step3
  go_wp2_with fail
  go_quiet (fail)
  go_wp2_with fail
  go_quiet (first | (go_at_call 58; exact (noHigh_any _ 3 (by omega) rfl x2 HY.out _).mono fun _ _ h => ⟨h.1, _, h.2⟩))
  go_wp2
  simp only [Exit.noGoto_ret, Exit.inBlock, Exit.then]
  go_ret
  exact ⟨rfl, below_drewNs _ _⟩

set_option maxRecDepth 100000 in
set_option maxHeartbeats 4000000 in
theorem indexRune_four (r : Int) (h0 : 65536 ≤ r) (h1 : r ≤ 1114111) (x0 x1 x2 x3 : UInt8) (hE : Utf8.encode r = { data := #[x0, x1, x2, x3] }) (hy : 128 ≤ (x3.toNat : Int)) (w : World) :
    Calls Tryz.prog 77 #[.string { data := #[65, 66, 67, 48, 49, 43, 42, 45, 126] }, .int .i32 r] w fun e w' => e = .returned (.int .i64 (-1)) ∧ Below w.heap.size w w' := by
  have hcv : ∀ W, (convert 21 9 (.int .i32 r)).run Tryz.prog W = .ok (.string { data := #[x0, x1, x2, x3] }) W := fun W => by
    rw [run_convert_int_string W 21 9 .i32 r (by kernel_rfl) (by kernel_rfl), hE]
  have HV : Hid (∀ W, Calls Tryz.prog 96 #[.int .i32 r] W fun e w' => e = .returned (.bool true) ∧ W = w') := fun W => validRune_ok r (by omega) (by omega) W
  have hneq : (((((ByteArray.mk #[65, 66, 67, 48, 49, 43, 42, 45, 126])[3]'(by decide)).toNat : Nat) : Int) != ((((ByteArray.mk #[x0, x1, x2, x3])[3]'(by simp [ByteArray.size])).toNat : Nat) : Int)) = true := by
    show ((48 : Int) != (x3.toNat : Int)) = true
    simp; omega
  have HY : Hid (128 ≤ x3.toNat) := by unfold Hid; omega
  clear hE hy
  go_enter Tryz.func77, Tryz.ntmps77
  go_wp2_with (go_at_call 96; refine (HV.out _).mono ?_; rintro e w' ⟨rfl, rfl⟩)
  go_step3
  go_wp2
  refine wp_loop_rounds 1 ?_
  rw [rounds_succ]
  go_wp2_with fail
  go_step3
  go_wp2_with fail
  go_quiet (fail)
  go_wp2_with fail
  go_quiet (first | (go_at_call 58; exact (noHigh_any _ 4 (by omega) rfl x3 HY.out _).mono fun _ _ h => ⟨h.1, _, h.2⟩))
  go_wp2
  simp only [Exit.noGoto_ret, Exit.inBlock, Exit.then]
  go_ret
  exact ⟨rfl, below_drewNs _ _⟩

end Go.Proofs.YtenmheenieifpabGreatDoor
