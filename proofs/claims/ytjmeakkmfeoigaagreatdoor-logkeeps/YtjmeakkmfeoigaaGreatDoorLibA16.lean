/-
  Facts and contracts that the statement leans on.
-/
import Derived.Test.YtjmeakkmfeoigaaGreatDoorLibA15
import Derived.Test.YtjmeakkmfeoigaaGreatDoorLibA13
import Derived.Lib.Bytealg
import Derived.Lib.OthersKept
import Derived.Laws.RangeAny
import Derived.Deep.LoopGhost
import Derived.Scope
import Derived.WalkMore
import Derived.Laws.BytesArg
import Derived.Laws.IdiomStrings
namespace Go.Proofs.YtjmeakkmfeoigaaGreatDoor
open Go.ChangeShapes Go.WideShapes Go.ChangeAt Go.RowKit
set_option maxRecDepth 100000
theorem open_bits {fs : List Fm} (h6 : fs.length ≤ 6) (u : Nat) : ((heldL fs u).any fun h => decide (bits .and .i64 h (maskTo (fun _ => true) fs.length) = maskTo (fun _ => true) fs.length)) = openN fs u := by
 have h := held_open h6 u (fun _ => false)
 rw [left_all] at h
 exact h
set_option maxHeartbeats 4000000 in
theorem coreOpen_any (v : Value) (fs : List Fm) (u : Int) (w : World) (hF : ReadsF w v fs) (hK : KindsLaid w) :
    Calls Tryz.prog 59 #[v, .int .i64 u] w (Bk w (.tuple #[.bool (openB fs u), errV (formsFault fs u)])) := by
 have hH := heldIn_any v fs u w hF hK
 obtain ⟨lo, lcap, rfl, _⟩ := hF.slice
 by_cases hf : formsFault fs u = 0
 ·obtain ⟨⟨_, h6⟩, _, _⟩ := forms_zero.1 hf
  have e : openB fs u = openN fs u.toNat := by unfold openB; rw [if_pos hf]
  rw [hf, if_pos rfl] at hH
  rw [hf, e]
  have HH : Hid (Calls Tryz.prog 91 #[.slice lo fs.length lcap, .int .i64 u] w fun e w' => (∃ x, e = .returned (.tuple #[x, .nilIface]) ∧ Reads w' x (heldL fs u.toNat)) ∧ Below w.heap.size w w') := hH
  have HAl : Hid (∀ W, Calls Tryz.prog 93 #[.slice lo fs.length lcap] W (Sk W (.int .i64 (maskTo (fun _ => true) fs.length)))) := fun W => coreAll_any lo _ lcap h6 W
  have HOp : Hid (∀ x W, Reads W x (heldL fs u.toNat) → Calls Tryz.prog 92 #[x, .int .i64 (maskTo (fun _ => true) fs.length)] W (Bk W (.bool (openN fs u.toNat)))) := fun x W hx => by
   have h := isOpen_any x _ (maskTo (fun _ => true) fs.length) W hx
   rw [open_bits h6] at h
   exact h
  obtain ⟨n, hn⟩ := nm fs.length
  obtain ⟨m, hm⟩ := nm (maskTo (fun _ => true) fs.length)
  obtain ⟨t, ht⟩ := nm (heldL fs u.toNat)
  obtain ⟨q, hq⟩ := nm (openN fs u.toNat)
  rw [← hm] at HAl HOp
  rw [← hn] at HH HAl ⊢
  rw [← ht] at HH HOp
  rw [← hq] at HOp ⊢
  clear hH hf h6 e hn hm ht hq hF hK
  go_enter Tryz.func59, Tryz.ntmps59
  go_wp2_with fail
  go_at_call 91
  refine HH.out.mono ?_
  rintro e w1 ⟨⟨x, rfl, hr⟩, hb⟩
  have HB1 := hide hb
  have HO1 := hide (HOp.out x w1 hr)
  obtain ⟨xo, xn, xc, rfl⟩ : ∃ xo xn xc, x = .slice xo xn xc := by
   rcases hr with ⟨ao, cap, rfl, _⟩ | ⟨b, off, cap, rfl, _⟩
   ·exact ⟨_, _, _, rfl⟩
   ·exact ⟨_, _, _, rfl⟩
  clear hb hr
  go_wp2_with fail
  go_at_call 93
  refine (HAl.out _).mono ?_
  rintro e w2 ⟨rfl, rfl⟩
  go_wp2_with fail
  go_at_call 92
  refine HO1.out.mono ?_
  rintro e w2 ⟨rfl, hb⟩
  have HB2 := hide (HB1.out.trans (hb.mono HB1.out.size))
  clear hb
  go_wp2
  go_ret2
  exact ⟨rfl, HB2.out⟩
 ·have e : openB fs u = false := by unfold openB; rw [if_neg hf]
  have e2 : errV (formsFault fs u) = .iface 64 (.int .i64 (formsFault fs u)) := by unfold errV; rw [if_neg hf]
  rw [if_neg hf, e2] at hH
  rw [e, e2]
  obtain ⟨F, hFd⟩ := nm (formsFault fs u)
  obtain ⟨n, hn⟩ := nm fs.length
  rw [← hFd, ← hn] at hH
  rw [← hFd, ← hn]
  have HH : Hid (Calls Tryz.prog 91 #[.slice lo n lcap, .int .i64 u] w fun e w' => (∃ x, e = .returned (.tuple #[x, .iface 64 (.int .i64 F)]) ∧ Reads w' x []) ∧ Below w.heap.size w w') := hH
  clear hH hf e e2 hFd hn hF hK
  go_enter Tryz.func59, Tryz.ntmps59
  go_wp2_with fail
  go_at_call 91
  refine HH.out.mono ?_
  rintro e w1 ⟨⟨x, rfl, hr⟩, hb⟩
  have HB1 := hide hb
  obtain ⟨xo, xn, xc, rfl⟩ : ∃ xo xn xc, x = .slice xo xn xc := by
   rcases hr with ⟨ao, cap, rfl, _⟩ | ⟨b, off, cap, rfl, _⟩
   ·exact ⟨_, _, _, rfl⟩
   ·exact ⟨_, _, _, rfl⟩
  clear hb hr
  go_wp2
  go_ret2
  exact ⟨rfl, HB1.out⟩
end Go.Proofs.YtjmeakkmfeoigaaGreatDoor
namespace Go.Proofs.YtjmeakkmfeoigaaGreatDoor
open Go.ChangeShapes Go.WideShapes Go.ChangeAt Go.RowKit
set_option maxRecDepth 100000
theorem sIndexByte_any (s : ByteArray) (c : Int) (w : World) :
    Calls Tryz.prog 108 #[.string s, .int .u8 c] w (Sk w (.int .i64 (Lib.indexByte s.data.toList c.toNat.toUInt8))) := by
 go_enter Tryz.func108, Tryz.ntmps108
 go_wp2
 rw [run_callFunc_extern Tryz.func145 (by kernel_rfl) (by kernel_rfl) (by kernel_rfl) (e := Extern.BytealgIndexByte.indexByte) (by kernel_rfl), Lib.run_indexByteString]
 simp only [Result.andThen]
 rw [Oper.upon_value]
 go_wp2
 go_ret
 exact ⟨rfl, rfl⟩
theorem indexByte_any (s : ByteArray) (c : Int) (w : World) :
    Calls Tryz.prog 67 #[.string s, .int .u8 c] w (Sk w (.int .i64 (Lib.indexByte s.data.toList c.toNat.toUInt8))) := by
 go_enter Tryz.func67, Tryz.ntmps67
 go_wp2_with (go_at_call 108; refine (sIndexByte_any _ _ _).mono ?_; rintro e w' ⟨rfl, rfl⟩)
 go_ret
 exact ⟨rfl, rfl⟩
theorem index_sign : ∀ b : UInt8, Lib.indexByte letterL b = signOf b := by
 intro b
 have h : ∀ n : Fin 256, Lib.indexByte letterL ⟨⟨n⟩⟩ = signOf ⟨⟨n⟩⟩ := by decide +kernel
 exact h b.toBitVec.toFin
theorem indexLetter_any (b : UInt8) (w : World) :
    Calls Tryz.prog 67 #[.string { data := #[65, 66, 67, 48, 49, 43, 42, 45, 126] }, .int .u8 (b.toNat : Int)] w (Sk w (.int .i64 (signOf b))) := by
 have := indexByte_any { data := #[65, 66, 67, 48, 49, 43, 42, 45, 126] } (b.toNat : Int) w
 have e : Lib.indexByte (ByteArray.mk #[65, 66, 67, 48, 49, 43, 42, 45, 126]).data.toList (b.toNat : Int).toNat.toUInt8 = signOf b := by
  rw [← index_sign b, Int.toNat_natCast]
  congr 1
  simp
 rwa [e] at this
def runeB (r : Nat) : Bool := decide (r < 128) && (signOf (UInt8.ofNat r) != -1)
theorem runeB_low (b : UInt8) (h : b.toNat < 128) : runeB b.toNat = (signOf b != -1) := by
 simp [runeB, h]
theorem runeB_high {r : Nat} (h : 128 ≤ r) : runeB r = false := by
 simp [runeB]; omega
theorem no_high : ∀ (k : Nat), k ≤ 9 → ∀ b : UInt8, 128 ≤ b.toNat → Lib.indexByte (letterL.drop k) b = -1 := by
 intro k hk b hb
 have h : ∀ k : Fin 10, ∀ n : Fin 256, 128 ≤ n.val → Lib.indexByte (letterL.drop k.val) ⟨⟨n⟩⟩ = -1 := by decide +kernel
 exact h ⟨k, by omega⟩ b.toBitVec.toFin hb
set_option maxRecDepth 100000 in
set_option maxHeartbeats 1000000 in
theorem indexRune_low (r : Nat) (hr : r < 128) (w : World) :
    Calls Tryz.prog 165 #[.string { data := #[65, 66, 67, 48, 49, 43, 42, 45, 126] }, .int .i32 r] w (Bk w (.int .i64 (signOf (UInt8.ofNat r)))) := by
 have hb : (UInt8.ofNat r).toNat = r := by simp; omega
 have c : Calls Tryz.prog 67 #[.string { data := #[65, 66, 67, 48, 49, 43, 42, 45, 126] }, .int .u8 (r : Int)] w (Sk w (.int .i64 (signOf (UInt8.ofNat r)))) := by
  have := indexLetter_any (UInt8.ofNat r) w
  rwa [hb] at this
 have HC := hide c
 clear c hb
 go_enter Tryz.func165, Tryz.ntmps165
 go_wp2_with (go_at_call 67; refine HC.out.mono ?_; rintro e w' ⟨rfl, rfl⟩)
 go_ret
 exact ⟨rfl, Below.refl _ _⟩
set_option maxRecDepth 100000 in
theorem validRune_no (r : Int) (h0 : 55296 ≤ r) (h1 : r ≤ 57343) (w : World) :
    Calls Tryz.prog 194 #[.int .i32 r] w (Sk w (.bool false)) := by
 go_enter Tryz.func194, Tryz.ntmps194
 go_wp2
 go_ret
 exact ⟨rfl, rfl⟩
set_option maxRecDepth 100000 in
theorem validRune_ok (r : Int) (h0 : 0 ≤ r) (h : r < 55296 ∨ 57343 < r ∧ r ≤ 1114111) (w : World) :
    Calls Tryz.prog 194 #[.int .i32 r] w (Sk w (.bool true)) := by
 rcases h with h | ⟨h, h'⟩
 all_goals
  go_enter Tryz.func194, Tryz.ntmps194
  go_wp2
  go_ret
  exact ⟨rfl, rfl⟩
set_option maxRecDepth 100000 in
set_option maxHeartbeats 1000000 in
theorem indexRune_no (r : Int) (h0 : 55296 ≤ r) (h1 : r ≤ 57343) (w : World) :
    Calls Tryz.prog 165 #[.string { data := #[65, 66, 67, 48, 49, 43, 42, 45, 126] }, .int .i32 r] w (Bk w (.int .i64 (-1))) := by
 go_enter Tryz.func165, Tryz.ntmps165
 go_wp2_with (go_at_call 194; refine (validRune_no _ h0 h1 _).mono ?_; rintro e w' ⟨rfl, rfl⟩)
 go_ret
 exact ⟨rfl, Below.refl _ _⟩
theorem decode_letter : ∀ pos : Nat, pos < 9 → (Utf8.decode { data := #[65, 66, 67, 48, 49, 43, 42, 45, 126] } pos).1 < 128 ∧ (Utf8.decode { data := #[65, 66, 67, 48, 49, 43, 42, 45, 126] } pos).2 = 1 := by
 decide +kernel
set_option maxRecDepth 100000 in
set_option maxHeartbeats 2000000 in
theorem indexRune_err (w : World) :
    Calls Tryz.prog 165 #[.string { data := #[65, 66, 67, 48, 49, 43, 42, 45, 126] }, .int .i32 65533] w (Bk w (.int .i64 (-1))) := by
 obtain ⟨s, hs⟩ : ∃ s : ByteArray, s = { data := #[65, 66, 67, 48, 49, 43, 42, 45, 126] } := ⟨_, rfl⟩
 have HD : Hid (∀ pos : Nat, pos < 9 → (Utf8.decode s pos).1 < 128 ∧ (Utf8.decode s pos).2 = 1) := by unfold Hid; rw [hs]; exact decode_letter
 have HZ : Hid (s.size = 9) := by unfold Hid; rw [hs]; rfl
 rw [← hs]
 clear hs
 go_enter Tryz.func165, Tryz.ntmps165
 go_wp2
 go_loopg [] 9 (fun gf wx => ∃ pos : Nat, pos + gf = 9 ∧ wx.heap[w.heap.size]? = some (.stringIter s pos) ∧ Below w.heap.size w wx)
 case atStart => exact ⟨0, rfl, World.iter_heap w s 0, (Below.refl _ w).alloc (Nat.le_refl _) _⟩
 case round =>
  obtain ⟨pos, hpos, hit, hbw⟩ := hrel
  by_cases hps : pos < 9
  ·obtain ⟨g', rfl⟩ : ∃ g', gk = g' + 1 := ⟨gk - 1, by omega⟩
   have hnx : ∀ ty, (Instr.next (.pointer (some ⟨w.heap.size, 0, none⟩)) true ty).run Tryz.prog wr = _ := fun ty => Lib.run_next_any_at wr w.heap.size s pos ty hit (by rw [HZ.out]; exact hps)
   have hd := HD.out pos hps
   have hit2 := Lib.iterAt_heap wr w.heap.size s pos (pos + 1) hit
   have hbw2 := Lib.below_iterAt hbw (k := w.heap.size) (Nat.le_refl _) s (pos + 1)
   obtain ⟨R, hR⟩ : ∃ R, (Utf8.decode s pos).1 = R := ⟨_, rfl⟩
   rw [hR, hd.2] at hnx
   rw [hR] at hd
   have hR' : ((R : Int) == 65533) = false := by simp; omega
   obtain ⟨W, hWd⟩ : ∃ W, wr.iterAt w.heap.size s (pos + 1) = W := ⟨_, rfl⟩
   rw [hWd] at hnx hit2 hbw2
   have HI : Hid (W.heap[w.heap.size]? = some (.stringIter s (pos + 1)) ∧ Below w.heap.size w W) := ⟨hit2, hbw2⟩
   clear hit hbw hit2 hbw2 hWd hd hR
   go_wp2
   go_roundg g'
   case measure => omega
   case rel => exact ⟨pos + 1, by omega, HI.out.1, HI.out.2⟩
  ·have hnx : ∀ ty, (Instr.next (.pointer (some ⟨w.heap.size, 0, none⟩)) true ty).run Tryz.prog wr = _ := fun ty => Lib.run_next_end_at wr w.heap.size s pos ty hit (by rw [HZ.out]; exact hps)
   have HB := hide hbw
   clear hit hbw
   go_wp2
   go_ret
   exact ⟨rfl, HB.out⟩
end Go.Proofs.YtjmeakkmfeoigaaGreatDoor
namespace Go.Proofs.YtjmeakkmfeoigaaGreatDoor
open Go.ChangeShapes Go.WideShapes Go.ChangeAt Go.RowKit
set_option maxRecDepth 100000
theorem noHigh_any (s : ByteArray) (k : Nat) (hk : k ≤ 9) (hs : s.data.toList = letterL.drop k) (b : UInt8) (hb : 128 ≤ b.toNat) (W : World) :
    Calls Tryz.prog 67 #[.string s, .int .u8 (b.toNat : Int)] W fun e w' => e = .returned (.int .i64 (-1)) ∧ w' = W := by
 have := indexByte_any s (b.toNat : Int) W
 have e : Lib.indexByte s.data.toList (b.toNat : Int).toNat.toUInt8 = -1 := by
  rw [hs, ← no_high k hk b hb, Int.toNat_natCast]
  congr 1
  simp
 rw [e] at this
 exact this.mono fun _ _ h => (And.intro h.1 h.2.symm)
set_option maxRecDepth 100000 in
set_option maxHeartbeats 4000000 in
theorem indexRune_two (r : Int) (h0 : 128 ≤ r) (h1 : r < 2048) (x0 x1 : UInt8) (hE : Utf8.encode r = { data := #[x0, x1] }) (hy : 128 ≤ (x1.toNat : Int)) (w : World) :
    Calls Tryz.prog 165 #[.string { data := #[65, 66, 67, 48, 49, 43, 42, 45, 126] }, .int .i32 r] w (Bk w (.int .i64 (-1))) := by
 have hcv : ∀ W, (convert 21 9 (.int .i32 r)).run Tryz.prog W = .ok (.string { data := #[x0, x1] }) W := fun W => by
  rw [run_convert_int_string W 21 9 .i32 r (by kernel_rfl) (by kernel_rfl), hE]
 have HV : Hid (∀ W, Calls Tryz.prog 194 #[.int .i32 r] W (Sk W (.bool true))) := fun W => validRune_ok r (by omega) (by omega) W
 have hneq : (((((ByteArray.mk #[65, 66, 67, 48, 49, 43, 42, 45, 126])[1]'(by decide)).toNat : Nat) : Int) != ((((ByteArray.mk #[x0, x1])[1]'(by simp [ByteArray.size])).toNat : Nat) : Int)) = true := by
  show ((66 : Int) != (x1.toNat : Int)) = true
  simp; omega
 have HY : Hid (128 ≤ x1.toNat) := by unfold Hid; omega
 clear hE hy
 go_enter Tryz.func165, Tryz.ntmps165
 go_wp2_with (go_at_call 194; refine (HV.out _).mono ?_; rintro e w' ⟨rfl, rfl⟩)
 go_step3
 go_wp2
 refine wp_loop_rounds 1 ?_
 rw [rounds_succ]
 go_wp2_with fail
 go_step3
 go_wp2_with fail
 go_quiet (fail)
 go_wp2_with fail
 go_quiet (first | (go_at_call 67; exact (noHigh_any _ 2 (by omega) rfl x1 HY.out _).mono fun _ _ h => ⟨h.1, _, h.2⟩))
 go_wp2
 simp only [Exit.noGoto_ret, Exit.inBlock, Exit.then]
 go_ret
 exact ⟨rfl, below_drewNs _ _⟩
set_option maxRecDepth 100000 in
set_option maxHeartbeats 4000000 in
theorem indexRune_three (r : Int) (h0 : 2048 ≤ r) (h1 : r < 65536) (hne : ¬ r = 65533) (hsur : r < 55296 ∨ 57343 < r) (x0 x1 x2 : UInt8) (hE : Utf8.encode r = { data := #[x0, x1, x2] }) (hy : 128 ≤ (x2.toNat : Int)) (w : World) :
    Calls Tryz.prog 165 #[.string { data := #[65, 66, 67, 48, 49, 43, 42, 45, 126] }, .int .i32 r] w (Bk w (.int .i64 (-1))) := by
 have hcv : ∀ W, (convert 21 9 (.int .i32 r)).run Tryz.prog W = .ok (.string { data := #[x0, x1, x2] }) W := fun W => by
  rw [run_convert_int_string W 21 9 .i32 r (by kernel_rfl) (by kernel_rfl), hE]
 have HV : Hid (∀ W, Calls Tryz.prog 194 #[.int .i32 r] W (Sk W (.bool true))) := fun W => validRune_ok r (by omega) (by omega) W
 have hne1 : (r == 65533) = false := by simpa using hne
 clear hne
 have hneq : (((((ByteArray.mk #[65, 66, 67, 48, 49, 43, 42, 45, 126])[2]'(by decide)).toNat : Nat) : Int) != ((((ByteArray.mk #[x0, x1, x2])[2]'(by simp [ByteArray.size])).toNat : Nat) : Int)) = true := by
  show ((67 : Int) != (x2.toNat : Int)) = true
  simp; omega
 have HY : Hid (128 ≤ x2.toNat) := by unfold Hid; omega
 clear hE hy
 go_enter Tryz.func165, Tryz.ntmps165
 go_wp2_with (go_at_call 194; refine (HV.out _).mono ?_; rintro e w' ⟨rfl, rfl⟩)
 go_step3
 go_wp2
 refine wp_loop_rounds 1 ?_
 rw [rounds_succ]
 go_wp2_with fail
 go_step3
 go_wp2_with fail
 go_quiet (fail)
 go_wp2_with fail
 go_quiet (first | (go_at_call 67; exact (noHigh_any _ 3 (by omega) rfl x2 HY.out _).mono fun _ _ h => ⟨h.1, _, h.2⟩))
 go_wp2
 simp only [Exit.noGoto_ret, Exit.inBlock, Exit.then]
 go_ret
 exact ⟨rfl, below_drewNs _ _⟩
set_option maxRecDepth 100000 in
set_option maxHeartbeats 4000000 in
theorem indexRune_four (r : Int) (h0 : 65536 ≤ r) (h1 : r ≤ 1114111) (x0 x1 x2 x3 : UInt8) (hE : Utf8.encode r = { data := #[x0, x1, x2, x3] }) (hy : 128 ≤ (x3.toNat : Int)) (w : World) :
    Calls Tryz.prog 165 #[.string { data := #[65, 66, 67, 48, 49, 43, 42, 45, 126] }, .int .i32 r] w (Bk w (.int .i64 (-1))) := by
 have hcv : ∀ W, (convert 21 9 (.int .i32 r)).run Tryz.prog W = .ok (.string { data := #[x0, x1, x2, x3] }) W := fun W => by
  rw [run_convert_int_string W 21 9 .i32 r (by kernel_rfl) (by kernel_rfl), hE]
 have HV : Hid (∀ W, Calls Tryz.prog 194 #[.int .i32 r] W (Sk W (.bool true))) := fun W => validRune_ok r (by omega) (by omega) W
 have hneq : (((((ByteArray.mk #[65, 66, 67, 48, 49, 43, 42, 45, 126])[3]'(by decide)).toNat : Nat) : Int) != ((((ByteArray.mk #[x0, x1, x2, x3])[3]'(by simp [ByteArray.size])).toNat : Nat) : Int)) = true := by
  show ((48 : Int) != (x3.toNat : Int)) = true
  simp; omega
 have HY : Hid (128 ≤ x3.toNat) := by unfold Hid; omega
 clear hE hy
 go_enter Tryz.func165, Tryz.ntmps165
 go_wp2_with (go_at_call 194; refine (HV.out _).mono ?_; rintro e w' ⟨rfl, rfl⟩)
 go_step3
 go_wp2
 refine wp_loop_rounds 1 ?_
 rw [rounds_succ]
 go_wp2_with fail
 go_step3
 go_wp2_with fail
 go_quiet (fail)
 go_wp2_with fail
 go_quiet (first | (go_at_call 67; exact (noHigh_any _ 4 (by omega) rfl x3 HY.out _).mono fun _ _ h => ⟨h.1, _, h.2⟩))
 go_wp2
 simp only [Exit.noGoto_ret, Exit.inBlock, Exit.then]
 go_ret
 exact ⟨rfl, below_drewNs _ _⟩
end Go.Proofs.YtjmeakkmfeoigaaGreatDoor
namespace Go.Proofs.YtjmeakkmfeoigaaGreatDoor
open Go.ChangeShapes Go.WideShapes Go.ChangeAt Go.RowKit
set_option maxRecDepth 100000
def runeI (r : Nat) : Int := if r < 128 then signOf (UInt8.ofNat r) else -1
theorem runeI_iff (r : Nat) : (decide (0 ≤ runeI r)) = runeB r := by
 unfold runeI runeB
 by_cases h : r < 128
 ·rw [if_pos h]
  rcases byte_all (UInt8.ofNat r) with h1 | h1
  ·rw [h1]; simp
  ·have := signB_iff.1 h1.1
   have e : (signOf (UInt8.ofNat r) != -1) = true := by simp; omega
   rw [e]; simp [h]; omega
 ·rw [if_neg h]; simp [h]
theorem tail_high (n : Nat) : 128 ≤ ((UInt8.ofNat (128 + n % 64)).toNat : Int) := by
 have : (UInt8.ofNat (128 + n % 64)).toNat = 128 + n % 64 := by simp; omega
 rw [this]; omega
theorem indexRune_any (r : Nat) (hr : r ≤ 1114111) (w : World) :
    Calls Tryz.prog 165 #[.string { data := #[65, 66, 67, 48, 49, 43, 42, 45, 126] }, .int .i32 r] w (Bk w (.int .i64 (runeI r))) := by
 unfold runeI
 by_cases h : r < 128
 ·rw [if_pos h]; exact indexRune_low r h w
 rw [if_neg h]
 by_cases he : r = 65533
 ·subst he; exact indexRune_err w
 by_cases hs : 55296 ≤ r ∧ r ≤ 57343
 ·exact indexRune_no (r : Int) (by omega) (by omega) w
 have hv : Utf8.valid (r : Int) = true := by
  unfold Utf8.valid
  rw [Bool.or_eq_true, Bool.and_eq_true, Bool.and_eq_true]
  simp only [decide_eq_true_eq]
  omega
 have hE : Utf8.encode (r : Int) = if r < 128 then ⟨#[UInt8.ofNat r]⟩ else if r < 2048 then ⟨#[UInt8.ofNat (192 + r / 64), UInt8.ofNat (128 + r % 64)]⟩ else if r < 65536 then ⟨#[UInt8.ofNat (224 + r / 4096), UInt8.ofNat (128 + r / 64 % 64), UInt8.ofNat (128 + r % 64)]⟩ else ⟨#[UInt8.ofNat (240 + r / 262144), UInt8.ofNat (128 + r / 4096 % 64), UInt8.ofNat (128 + r / 64 % 64), UInt8.ofNat (128 + r % 64)]⟩ := by
  unfold Utf8.encode
  rw [if_pos hv]
  rfl
 rw [if_neg h] at hE
 by_cases h2 : r < 2048
 ·rw [if_pos h2] at hE
  exact indexRune_two (r : Int) (by omega) (by omega) _ _ hE (tail_high r) w
 rw [if_neg h2] at hE
 by_cases h3 : r < 65536
 ·rw [if_pos h3] at hE
  exact indexRune_three (r : Int) (by omega) (by omega) (by omega) (by omega) _ _ _ hE (tail_high r) w
 rw [if_neg h3] at hE
 exact indexRune_four (r : Int) (by omega) (by omega) _ _ _ _ hE (tail_high r) w
theorem containsRune_any (r : Nat) (hr : r ≤ 1114111) (w : World) :
    Calls Tryz.prog 137 #[.string { data := #[65, 66, 67, 48, 49, 43, 42, 45, 126] }, .int .i32 r] w (Bk w (.bool (runeB r))) := by
 have HC : Hid (∀ W, Calls Tryz.prog 165 #[.string { data := #[65, 66, 67, 48, 49, 43, 42, 45, 126] }, .int .i32 r] W (Bk W (.int .i64 (runeI r)))) := fun W => indexRune_any r hr W
 have HI : Hid (decide (0 ≤ runeI r) = runeB r) := runeI_iff r
 clear hr
 go_enter Tryz.func137, Tryz.ntmps137
 go_wp2_with (go_at_call 165; refine (HC.out _).mono ?_; rintro e w' ⟨rfl, hb⟩)
 go_ret
 exact ⟨back_b HI.out, hb⟩
theorem noLetter_any (r : Nat) (hr : r ≤ 1114111) (w : World) :
    Calls Tryz.prog 136 #[.int .i32 r] w (Bk w (.bool (!runeB r))) := by
 have HC : Hid (∀ W, Calls Tryz.prog 137 #[.string { data := #[65, 66, 67, 48, 49, 43, 42, 45, 126] }, .int .i32 r] W (Bk W (.bool (runeB r)))) := fun W => containsRune_any r hr W
 clear hr
 go_enter Tryz.func136, Tryz.ntmps136
 go_wp2_with (go_at_call 137; refine (HC.out _).mono ?_; rintro e w' ⟨rfl, hb⟩)
 go_ret
 exact ⟨rfl, hb⟩
theorem decode_low (s : ByteArray) (pos : Nat) (h : pos < s.size) (ha : (s[pos]'h).toNat < 128) : Utf8.decode s pos = ((s[pos]'h).toNat, 1) := by
 simp only [Utf8.decode, get_at s pos h, ha, if_true]
def badFrom : List UInt8 → Nat → Int
 | [], _ => -1
 | b :: l, k => if (signOf b != -1) = true then badFrom l (k + 1) else k
theorem badFrom_iff (l : List UInt8) (k : Nat) : decide (0 ≤ badFrom l k) = !lettersB l := by
 induction l generalizing k with
 | nil => rfl
 | cons b l ih =>
  unfold badFrom lettersB
  rw [List.all_cons]
  by_cases h : (signOf b != -1) = true
  ·rw [if_pos h, h]; exact ih (k + 1)
  ·have h' : (signOf b != -1) = false := by simpa using h
   rw [if_neg h, h']; simp
theorem badFrom_drop (s : ByteArray) {k : Nat} (hk : k < s.size) : badFrom (s.data.toList.drop k) k = if (signOf (s[k]'hk) != -1) = true then badFrom (s.data.toList.drop (k + 1)) (k + 1) else k := by
 have hk' : k < s.data.toList.length := by rw [Array.length_toList]; exact hk
 rw [List.drop_eq_getElem_cons hk']
 rfl
theorem letter_low (b : UInt8) (h : (signOf b != -1) = true) : b.toNat < 128 := by
 have h' : signOf b ≠ -1 := by simpa using h
 have := byte_sign h'
 rw [← this.2]
 rcases nine this.1 with e | e | e | e | e | e | e | e | e <;> rw [e] <;> decide
theorem rune_le (s : ByteArray) (pos : Nat) : (Utf8.decode s pos).1 ≤ 1114111 := by
 have hb : ∀ k, (s.get! (pos + k)).toNat < 256 := fun k => (s.get! (pos + k)).toNat_lt
 have h0 := hb 0; have h1 := hb 1; have h2 := hb 2; have h3 := hb 3
 simp only [Utf8.decode]
 repeat' split
 all_goals simp_all [Utf8.runeError, Utf8.valid]
 all_goals omega
set_option maxRecDepth 100000 in
set_option maxHeartbeats 2000000 in
theorem indexFunc_text (s : ByteArray) (w : World) :
    Calls Tryz.prog 197 #[.string s, .func (.func 136) #[] #[], .bool true] w (Bk w (.int .i64 (badFrom s.data.toList 0))) := by
 obtain ⟨A, hA⟩ := nm (badFrom s.data.toList 0)
 rw [← hA]
 have HA := hide hA
 clear hA
 go_enter Tryz.func197, Tryz.ntmps197
 go_wp2
 go_loopg [] s.size (fun gf wx => ∃ pos : Nat, pos + gf = s.size ∧ wx.heap[w.heap.size]? = some (.stringIter s pos) ∧ Below w.heap.size w wx ∧ badFrom (s.data.toList.drop pos) pos = A)
 case atStart => exact ⟨0, by omega, World.iter_heap w s 0, (Below.refl _ w).alloc (Nat.le_refl _) _, HA.out.symm⟩
 case round =>
  obtain ⟨pos, hpos, hit, hbw, hbad⟩ := hrel
  by_cases hps : pos < s.size
  ·obtain ⟨g', rfl⟩ : ∃ g', gk = g' + 1 := ⟨gk - 1, by omega⟩
   have hnx : ∀ ty, (Instr.next (.pointer (some ⟨w.heap.size, 0, none⟩)) true ty).run Tryz.prog wr = _ := fun ty => Lib.run_next_any_at wr w.heap.size s pos ty hit hps
   have hbd := badFrom_drop s hps
   have hle := rune_le s pos
   by_cases hL : (signOf (s[pos]'hps) != -1) = true
   ·rw [if_pos hL, hbad] at hbd
    have hlow := letter_low _ hL
    have hd := decode_low s pos hps hlow
    have hrb := runeB_low _ hlow
    rw [hL] at hrb
    obtain ⟨R, hR⟩ : ∃ R, (s[pos]'hps).toNat = R := ⟨_, rfl⟩
    rw [hR] at hrb hd
    rw [hd] at hnx hle
    have hit2 := Lib.iterAt_heap wr w.heap.size s pos (pos + 1) hit
    have hbw2 := Lib.below_iterAt hbw (k := w.heap.size) (Nat.le_refl _) s (pos + 1)
    simp only at hnx
    obtain ⟨W, hWd⟩ : ∃ W, wr.iterAt w.heap.size s (pos + 1) = W := ⟨_, rfl⟩
    rw [hWd] at hnx hit2 hbw2
    have HI : Hid (W.heap[w.heap.size]? = some (.stringIter s (pos + 1)) ∧ Below w.heap.size w W) := ⟨hit2, hbw2⟩
    have HL : Hid (w.heap.size < W.heap.size) := (Array.getElem?_eq_some_iff.1 hit2).1
    have HB := hide hbd
    have HN : Hid (Calls Tryz.prog 136 #[.int .i32 R] W (Bk W (.bool false))) := by
     have := noLetter_any R hle W
     rw [hrb] at this; exact this
    clear hit hbw hit2 hbw2 hWd hd hR hbad hbd hlow hL hrb hle
    go_wp2_with (go_at_call 136; refine HN.out.mono ?_; rintro e W' ⟨rfl, hbc⟩)
    go_roundg g'
    case measure => omega
    case rel => exact ⟨pos + 1, by omega, (hbc.block _ HL.out).trans HI.out.1, HI.out.2.trans (hbc.mono HI.out.2.size), HB.out.symm⟩
   ·rw [if_neg hL, hbad] at hbd
    have hL' : (signOf (s[pos]'hps) != -1) = false := by simpa using hL
    have hrb : runeB (Utf8.decode s pos).1 = false := by
     by_cases hlow : (s[pos]'hps).toNat < 128
     ·rw [decode_low s pos hps hlow, runeB_low _ hlow]; exact hL'
     ·exact runeB_high (decode_high s pos hps (by omega)).1
    obtain ⟨R, hR⟩ : ∃ R, (Utf8.decode s pos).1 = R := ⟨_, rfl⟩
    obtain ⟨K, hK⟩ : ∃ K, (Utf8.decode s pos).2 = K := ⟨_, rfl⟩
    rw [hR] at hrb hnx hle
    rw [hK] at hnx
    have hbw2 := Lib.below_iterAt hbw (k := w.heap.size) (Nat.le_refl _) s (pos + K)
    obtain ⟨W, hWd⟩ : ∃ W, wr.iterAt w.heap.size s (pos + K) = W := ⟨_, rfl⟩
    rw [hWd] at hnx hbw2
    have HI := hide hbw2
    have HB := hide hbd
    have HN : Hid (Calls Tryz.prog 136 #[.int .i32 R] W (Bk W (.bool true))) := by
     have := noLetter_any R hle W
     rw [hrb] at this; exact this
    clear hit hbw hbw2 hWd hR hK hbad hbd hL hL' hrb hle
    go_wp2_with (go_at_call 136; refine HN.out.mono ?_; rintro e W' ⟨rfl, hbc⟩)
    go_ret
    exact ⟨back_i HB.out.symm, HI.out.trans (hbc.mono HI.out.size)⟩
  ·have hnx : ∀ ty, (Instr.next (.pointer (some ⟨w.heap.size, 0, none⟩)) true ty).run Tryz.prog wr = _ := fun ty => Lib.run_next_end_at wr w.heap.size s pos ty hit hps
   have HB := hide hbw
   have HE : Hid (-1 = A) := by
    rw [List.drop_eq_nil_of_le (by have : s.data.toList.length = s.size := Array.length_toList
                                   omega)] at hbad
    exact hbad
   clear hit hbw hbad
   go_wp2
   go_ret
   exact ⟨back_i HE.out, HB.out⟩
theorem IndexFunc_text (s : ByteArray) (w : World) :
    Calls Tryz.prog 166 #[.string s, .func (.func 136) #[] #[]] w (Bk w (.int .i64 (badFrom s.data.toList 0))) := by
 have HC := indexFunc_text s w
 have HC' := hide HC
 clear HC
 go_enter Tryz.func166, Tryz.ntmps166
 go_wp2_with (go_at_call 197; refine HC'.out.mono ?_; rintro e w' ⟨rfl, hb⟩)
 go_ret
 exact ⟨rfl, hb⟩
theorem containsFunc_text (s : ByteArray) (w : World) :
    Calls Tryz.prog 138 #[.string s, .func (.func 136) #[] #[]] w (Bk w (.bool (!lettersB s.data.toList))) := by
 have HC : Hid (Calls Tryz.prog 166 #[.string s, .func (.func 136) #[] #[]] w (Bk w (.int .i64 (badFrom s.data.toList 0)))) := IndexFunc_text s w
 have HI : Hid (decide (0 ≤ badFrom s.data.toList 0) = !lettersB s.data.toList) := badFrom_iff _ 0
 obtain ⟨I, hI⟩ := nm (badFrom s.data.toList 0)
 rw [← hI] at HC HI
 clear hI
 go_enter Tryz.func138, Tryz.ntmps138
 go_wp2_with (go_at_call 166; refine HC.out.mono ?_; rintro e w' ⟨rfl, hb⟩)
 go_ret
 exact ⟨back_b HI.out, hb⟩
end Go.Proofs.YtjmeakkmfeoigaaGreatDoor
namespace Go.Proofs.YtjmeakkmfeoigaaGreatDoor
open Go.ChangeShapes Go.WideShapes Go.ChangeAt Go.RowKit
theorem parse_syntax (s : ByteArray) (h : lettersB s.data.toList = false) (w : World) :
    Calls Tryz.prog 98 #[.string s] w (Bk w (.tuple #[.slice none 0 0, .iface 64 (.int .i64 2)])) := by
 have HC : Hid (Calls Tryz.prog 138 #[.string s, .func (.func 136) #[] #[]] w (Bk w (.bool true))) := by
  have := containsFunc_text s w
  rw [h] at this; exact this
 clear h
 go_enter Tryz.func98, Tryz.ntmps98
 go_wp2_with (go_at_call 138; refine HC.out.mono ?_; rintro e w' ⟨rfl, hb⟩)
 go_ret2
 exact ⟨rfl, hb⟩
def partN (s : ByteArray) (n : Nat) : List Int := readN (s.data.toList.take n)
theorem partN_length (s : ByteArray) {n : Nat} (h : n ≤ s.size) : (partN s n).length = n := by
 have : s.data.toList.length = s.size := Array.length_toList
 simp only [partN, readN, List.length_map, List.length_take]; omega
theorem partN_getD (s : ByteArray) {n k : Nat} (h : n ≤ s.size) (hk : k < n) : (partN s n).getD k 0 = signOf (s[k]'(by omega)) := by
 have h1 : s.data.toList.length = s.size := Array.length_toList
 have h2 : k < (s.data.toList.take n).length := by rw [List.length_take]; omega
 simp only [partN, readN, List.getD_eq_getElem?_getD, List.getElem?_map, List.getElem?_eq_getElem h2, Option.map_some, Option.getD_some, List.getElem_take]
 rfl
theorem own_reads {w : World} {base : Nat} {e : TypeId} {g cap n : Nat} {xs : List Value} {t : List Int} (h : w.ownsRow base e 1 (.slice (some ⟨g, 0, none⟩) n cap) n xs) (hn : t.length = n) (hx : ∀ j, j < n → xs[j]? = some (.int .i64 (t.getD j 0))) (hm : n ≤ 13) : Reads w (.slice (some ⟨g, 0, none⟩) n cap) t := by
 rcases Nat.eq_zero_or_pos n with h0 | h0
 ·exact Or.inl ⟨_, cap, by rw [h0], List.eq_nil_of_length_eq_zero (by omega)⟩
 ·refine Or.inr ⟨g, 0, cap, by rw [hn], (ownsRow_block h).2.1, by omega, ⟨by omega, by have := (ownsRow_block h).2.2; omega⟩, fun k hk => ?_⟩
  rw [Nat.zero_add, h.cellAt k (by omega)]
  exact hx k (by omega)
set_option maxRecDepth 100000 in
set_option maxHeartbeats 4000000 in
theorem parse_short (s : ByteArray) (hz : s.size ≤ 9223372036854775807) (hn : s.size ≤ 13) (h : lettersB s.data.toList = true) (w : World) :
    Calls Tryz.prog 98 #[.string s] w fun e w' => ∃ v, e = .returned (.tuple #[if faultN (partN s s.size) = 0 then v else .slice none 0 0, errV (faultN (partN s s.size))]) ∧ Reads w' v (partN s s.size) ∧ (∃ g c, v = .slice (some ⟨g, 0, none⟩) c c ∧ w.heap.size ≤ g) ∧ Below w.heap.size w w' := by
 obtain ⟨i0, hi, hz0, hz1, hz2⟩ := info_parts infoInt
 have HC : Hid (Calls Tryz.prog 138 #[.string s, .func (.func 136) #[] #[]] w (Bk w (.bool false))) := by
  have := containsFunc_text s w
  rw [h] at this; exact this
 clear h
 have hdec : ¬ (13 : Int) < (s.size : Int) := by omega
 have hNs : s.size ≤ s.size := by omega
 have hN13 : s.size ≤ 13 := by omega
 obtain ⟨t, ht⟩ := nm (partN s s.size)
 rw [← ht]
 have HTL : Hid (t.length = s.size) := by unfold Hid; rw [ht]; exact partN_length s hNs
 have HTG : Hid (∀ k (hk : k < s.size), t.getD k 0 = signOf (s[k]'(by omega))) := fun k hk => by rw [ht]; exact partN_getD s hNs hk
 clear ht
 obtain ⟨E, hE⟩ := nm (errV (faultN t))
 obtain ⟨pick, hpick⟩ : ∃ pick : Value → Value, pick = fun v => if faultN t = 0 then v else .slice none 0 0 := ⟨_, rfl⟩
 have hgoal : ∀ v, (if faultN t = 0 then v else Value.slice none 0 0) = pick v := fun v => by rw [hpick]
 rw [← hE]
 simp only [hgoal]
 have HE := hide hE
 have HPI : Hid ((faultN t = 0 → ∀ v, pick v = v) ∧ (¬ faultN t = 0 → ∀ v, pick v = .slice none 0 0)) := ⟨fun h v => by rw [hpick]; exact if_pos h, fun h v => by rw [hpick]; exact if_neg h⟩
 clear hgoal hpick hE
 obtain ⟨f, hf⟩ : ∃ f : Nat → Value, f = fun j => .int .i64 (t.getD j 0) := ⟨_, rfl⟩
 have HF := hide hf
 clear hf
 go_enter Tryz.func98, Tryz.ntmps98
 go_wp2_with (first | (go_at_call 138; refine HC.out.mono ?_; rintro e wc ⟨rfl, hbc⟩) | (at_make; refine wpList_make_full _ rfl _ _ 27 rfl wc.heap.size 3 i0 (.int .i64 0) 1 Tryz.underlying27 hi hz0 hz1 .i64 .i64 _ _ s.size rfl rfl ?m0 ?m1 ?m2 ?m3 ?m4 ?_))
 case m0 => first | rfl | omega
 case m1 => first | rfl | omega
 case m2 => rw [hz2]; omega
 case m3 => unfold maxLen; omega
 case m4 => exact Nat.le_refl _
 intro w1 hown1 hgrow1
 obtain ⟨G, hG⟩ := nm wc.heap.size
 have HG : Hid (w.heap.size ≤ G) := by unfold Hid; rw [hG]; exact hbc.size
 have HO : Hid (w1.ownsRow G 3 1 (.slice (some ⟨G, 0, none⟩) s.size s.size) s.size (fill f (.int .i64 0) s.size 0) ∧ Below w.heap.size w w1) := by
  refine ⟨?_, ?_⟩
  ·rw [fill_zero, ← toList_madeCells_one, hG]
   simpa [Value.cells] using hown1
  ·exact hbc.grown hgrow1 (by rw [← hG]; exact HG.out) (fun k hk => by cases hk)
 rw [← hG]
 clear hown1 hgrow1 hG HC hbc
 go_wp2
 go_loopw [18] (fun i wr => ∃ k : Nat, k ≤ s.size ∧ i = .int .i64 k ∧ wr.ownsRow G 3 1 (.slice (some ⟨G, 0, none⟩) s.size s.size) s.size (fill f (.int .i64 0) s.size k) ∧ Below w.heap.size w wr) (fun i _ => s.size - (intOf i).toNat)
 case atStart => exact ⟨0, Nat.zero_le _, rfl, HO.out.1, HO.out.2⟩
 case round =>
  obtain ⟨k, hk, rfl, hown, hbel⟩ := hrel
  by_cases hlt : k < s.size
  ·have hks : k < s.size := by omega
   have hfr : wr.frozen? ⟨G, k, none⟩ = false := hown.frozenAt k
   have hcg : wr.cell? ⟨G, k, none⟩ = some (.int .i64 0) := by rw [hown.cellAt k (by omega), fill_get _ _ _ _ _ hlt, if_neg (by omega)]
   have HR : Hid ((wr.setCell ⟨G, k, none⟩ (.int .i64 (signOf (s[k]'hks)))).ownsRow G 3 1 (.slice (some ⟨G, 0, none⟩) s.size s.size) s.size (fill f (.int .i64 0) s.size (k + 1)) ∧ Below w.heap.size w (wr.setCell ⟨G, k, none⟩ (.int .i64 (signOf (s[k]'hks))))) := by
    have := hown.stored k (f k)
    rw [fill_set] at this
    have e : f k = .int .i64 (signOf (s[k]'hks)) := by rw [HF.out]; show Value.int .i64 (t.getD k 0) = _; rw [HTG.out k hlt]
    rw [e] at this
    exact ⟨this.1, hbel.setCell HG.out _⟩
   clear hown hbel
   go_wp2_with (go_at_call 67; refine (indexLetter_any _ _).mono ?_; rintro e w' ⟨rfl, rfl⟩)
   go_roundw
   case rel => exact ⟨k + 1, by omega, by go_num, HR.out.1, HR.out.2⟩
   case measure => simp [intOf]; omega
  ·obtain rfl : k = s.size := by omega
   have hR : Reads wr (.slice (some ⟨G, 0, none⟩) s.size s.size) t := own_reads hown HTL.out (fun j hj => by rw [fill_get _ _ _ _ _ hj, if_pos hj, HF.out]) hN13
   have HRd := hide hR
   have HBw := hide hbel
   have HCk : Hid (Calls Tryz.prog 68 #[.slice (some ⟨G, 0, none⟩) s.size s.size] wr (Sk wr (errV (faultN t)))) := tcheck_any t _ wr hR
   clear hown hbel hR
   by_cases hft : faultN t = 0
   ·have HE1 : Hid (errV (faultN t) = .nilIface) := by unfold Hid; rw [hft]; rfl
    have HFT := hide hft
    rw [HE1.out] at HCk
    clear hft
    go_wp2_with (go_at_call 68; refine HCk.out.mono ?_; rintro e w' ⟨rfl, rfl⟩)
    go_ret2
    exact ⟨.slice (some ⟨G, 0, none⟩) s.size s.size, back_2 (HPI.out.1 HFT.out _).symm (HE.out.trans HE1.out).symm, HRd.out, ⟨G, _, rfl, HG.out⟩, HBw.out⟩
   ·have HE1 : Hid (errV (faultN t) = .iface 64 (.int .i64 (faultN t))) := by unfold Hid errV; rw [if_neg hft]
    have HFT := hide hft
    rw [HE1.out] at HCk
    clear hft
    go_wp2_with (go_at_call 68; refine HCk.out.mono ?_; rintro e w' ⟨rfl, rfl⟩)
    go_ret2
    exact ⟨.slice (some ⟨G, 0, none⟩) s.size s.size, back_2 (HPI.out.2 HFT.out _).symm (HE.out.trans HE1.out).symm, HRd.out, ⟨G, _, rfl, HG.out⟩, HBw.out⟩
set_option maxRecDepth 100000 in
set_option maxHeartbeats 4000000 in
theorem parse_long (s : ByteArray) (hz : s.size ≤ 9223372036854775807) (hn : 13 < s.size) (h : lettersB s.data.toList = true) (w : World) :
    Calls Tryz.prog 98 #[.string s] w fun e w' => ∃ v, e = .returned (.tuple #[if faultN (partN s 13) = 0 then v else .slice none 0 0, errV (faultN (partN s 13))]) ∧ Reads w' v (partN s 13) ∧ (∃ g c, v = .slice (some ⟨g, 0, none⟩) c c ∧ w.heap.size ≤ g) ∧ Below w.heap.size w w' := by
 obtain ⟨i0, hi, hz0, hz1, hz2⟩ := info_parts infoInt
 have HC : Hid (Calls Tryz.prog 138 #[.string s, .func (.func 136) #[] #[]] w (Bk w (.bool false))) := by
  have := containsFunc_text s w
  rw [h] at this; exact this
 clear h
 have hdec : (13 : Int) < (s.size : Int) := by omega
 have hNs : 13 ≤ s.size := by omega
 have hN13 : 13 ≤ 13 := by omega
 obtain ⟨t, ht⟩ := nm (partN s 13)
 rw [← ht]
 have HTL : Hid (t.length = 13) := by unfold Hid; rw [ht]; exact partN_length s hNs
 have HTG : Hid (∀ k (hk : k < 13), t.getD k 0 = signOf (s[k]'(by omega))) := fun k hk => by rw [ht]; exact partN_getD s hNs hk
 clear ht
 obtain ⟨E, hE⟩ := nm (errV (faultN t))
 obtain ⟨pick, hpick⟩ : ∃ pick : Value → Value, pick = fun v => if faultN t = 0 then v else .slice none 0 0 := ⟨_, rfl⟩
 have hgoal : ∀ v, (if faultN t = 0 then v else Value.slice none 0 0) = pick v := fun v => by rw [hpick]
 rw [← hE]
 simp only [hgoal]
 have HE := hide hE
 have HPI : Hid ((faultN t = 0 → ∀ v, pick v = v) ∧ (¬ faultN t = 0 → ∀ v, pick v = .slice none 0 0)) := ⟨fun h v => by rw [hpick]; exact if_pos h, fun h v => by rw [hpick]; exact if_neg h⟩
 clear hgoal hpick hE
 obtain ⟨f, hf⟩ : ∃ f : Nat → Value, f = fun j => .int .i64 (t.getD j 0) := ⟨_, rfl⟩
 have HF := hide hf
 clear hf
 go_enter Tryz.func98, Tryz.ntmps98
 go_wp2_with (first | (go_at_call 138; refine HC.out.mono ?_; rintro e wc ⟨rfl, hbc⟩) | (at_make; refine wpList_make_full _ rfl _ _ 27 rfl wc.heap.size 3 i0 (.int .i64 0) 1 Tryz.underlying27 hi hz0 hz1 .i64 .i64 _ _ 13 rfl rfl ?m0 ?m1 ?m2 ?m3 ?m4 ?_))
 case m0 => first | rfl | omega
 case m1 => first | rfl | omega
 case m2 => rw [hz2]; omega
 case m3 => unfold maxLen; omega
 case m4 => exact Nat.le_refl _
 intro w1 hown1 hgrow1
 obtain ⟨G, hG⟩ := nm wc.heap.size
 have HG : Hid (w.heap.size ≤ G) := by unfold Hid; rw [hG]; exact hbc.size
 have HO : Hid (w1.ownsRow G 3 1 (.slice (some ⟨G, 0, none⟩) 13 13) 13 (fill f (.int .i64 0) 13 0) ∧ Below w.heap.size w w1) := by
  refine ⟨?_, ?_⟩
  ·rw [fill_zero, ← toList_madeCells_one, hG]
   simpa [Value.cells] using hown1
  ·exact hbc.grown hgrow1 (by rw [← hG]; exact HG.out) (fun k hk => by cases hk)
 rw [← hG]
 clear hown1 hgrow1 hG HC hbc
 go_wp2
 go_loopw [18] (fun i wr => ∃ k : Nat, k ≤ 13 ∧ i = .int .i64 k ∧ wr.ownsRow G 3 1 (.slice (some ⟨G, 0, none⟩) 13 13) 13 (fill f (.int .i64 0) 13 k) ∧ Below w.heap.size w wr) (fun i _ => 13 - (intOf i).toNat)
 case atStart => exact ⟨0, Nat.zero_le _, rfl, HO.out.1, HO.out.2⟩
 case round =>
  obtain ⟨k, hk, rfl, hown, hbel⟩ := hrel
  by_cases hlt : k < 13
  ·have hks : k < s.size := by omega
   have hfr : wr.frozen? ⟨G, k, none⟩ = false := hown.frozenAt k
   have hcg : wr.cell? ⟨G, k, none⟩ = some (.int .i64 0) := by rw [hown.cellAt k (by omega), fill_get _ _ _ _ _ hlt, if_neg (by omega)]
   have HR : Hid ((wr.setCell ⟨G, k, none⟩ (.int .i64 (signOf (s[k]'hks)))).ownsRow G 3 1 (.slice (some ⟨G, 0, none⟩) 13 13) 13 (fill f (.int .i64 0) 13 (k + 1)) ∧ Below w.heap.size w (wr.setCell ⟨G, k, none⟩ (.int .i64 (signOf (s[k]'hks))))) := by
    have := hown.stored k (f k)
    rw [fill_set] at this
    have e : f k = .int .i64 (signOf (s[k]'hks)) := by rw [HF.out]; show Value.int .i64 (t.getD k 0) = _; rw [HTG.out k hlt]
    rw [e] at this
    exact ⟨this.1, hbel.setCell HG.out _⟩
   clear hown hbel
   go_wp2_with (go_at_call 67; refine (indexLetter_any _ _).mono ?_; rintro e w' ⟨rfl, rfl⟩)
   go_roundw
   case rel => exact ⟨k + 1, by omega, by go_num, HR.out.1, HR.out.2⟩
   case measure => simp [intOf]; omega
  ·obtain rfl : k = 13 := by omega
   have hR : Reads wr (.slice (some ⟨G, 0, none⟩) 13 13) t := own_reads hown HTL.out (fun j hj => by rw [fill_get _ _ _ _ _ hj, if_pos hj, HF.out]) hN13
   have HRd := hide hR
   have HBw := hide hbel
   have HCk : Hid (Calls Tryz.prog 68 #[.slice (some ⟨G, 0, none⟩) 13 13] wr (Sk wr (errV (faultN t)))) := tcheck_any t _ wr hR
   clear hown hbel hR
   by_cases hft : faultN t = 0
   ·have HE1 : Hid (errV (faultN t) = .nilIface) := by unfold Hid; rw [hft]; rfl
    have HFT := hide hft
    rw [HE1.out] at HCk
    clear hft
    go_wp2_with (go_at_call 68; refine HCk.out.mono ?_; rintro e w' ⟨rfl, rfl⟩)
    go_ret2
    exact ⟨.slice (some ⟨G, 0, none⟩) 13 13, back_2 (HPI.out.1 HFT.out _).symm (HE.out.trans HE1.out).symm, HRd.out, ⟨G, _, rfl, HG.out⟩, HBw.out⟩
   ·have HE1 : Hid (errV (faultN t) = .iface 64 (.int .i64 (faultN t))) := by unfold Hid errV; rw [if_neg hft]
    have HFT := hide hft
    rw [HE1.out] at HCk
    clear hft
    go_wp2_with (go_at_call 68; refine HCk.out.mono ?_; rintro e w' ⟨rfl, rfl⟩)
    go_ret2
    exact ⟨.slice (some ⟨G, 0, none⟩) 13 13, back_2 (HPI.out.2 HFT.out _).symm (HE.out.trans HE1.out).symm, HRd.out, ⟨G, _, rfl, HG.out⟩, HBw.out⟩
theorem parse_fresh (s : ByteArray) (hz : s.size ≤ 9223372036854775807) (w : World) :
    Calls Tryz.prog 98 #[.string s] w fun e w' => ∃ v, e = .returned (.tuple #[v, errV (textFault s.data.toList)]) ∧ (textFault s.data.toList = 0 → Reads w' v (readN s.data.toList) ∧ ∃ g c, v = .slice (some ⟨g, 0, none⟩) c c ∧ w.heap.size ≤ g) ∧ (¬ textFault s.data.toList = 0 → v = .slice none 0 0) ∧ Below w.heap.size w w' := by
 have hlen : s.data.toList.length = s.size := Array.length_toList
 by_cases h : lettersB s.data.toList = true
 ·have e0 : textFault s.data.toList = faultN (readN s.data.toList) := by unfold textFault; rw [if_pos h]
  by_cases hn : s.size ≤ 13
  ·have e1 : partN s s.size = readN s.data.toList := by unfold partN; rw [List.take_of_length_le (by omega)]
   refine (parse_short s hz hn h w).mono ?_
   rintro e w' ⟨v, he, hr, hg, hb⟩
   rw [e1, ← e0] at he
   rw [e1] at hr
   by_cases hf : textFault s.data.toList = 0
   ·rw [if_pos hf] at he
    exact ⟨v, he, fun _ => ⟨hr, hg⟩, fun h' => absurd hf h', hb⟩
   ·rw [if_neg hf] at he
    exact ⟨_, he, fun h' => absurd h' hf, fun _ => rfl, hb⟩
  ·have l1 : (partN s 13).length = 13 := partN_length s (by omega)
   have l2 : (readN s.data.toList).length = s.size := by simp [readN]
   have f1 : faultN (partN s 13) = 4 := by unfold faultN; rw [if_neg (by omega), if_pos (by omega)]
   have f2 : textFault s.data.toList = 4 := by rw [e0]; unfold faultN; rw [if_neg (by omega), if_pos (by omega)]
   refine (parse_long s hz (by omega) h w).mono ?_
   rintro e w' ⟨v, he, _, _, hb⟩
   rw [f1, if_neg (by omega)] at he
   rw [f2]
   exact ⟨_, he, fun h' => by omega, fun _ => rfl, hb⟩
 ·have h' : lettersB s.data.toList = false := by simpa using h
  have e0 : textFault s.data.toList = 2 := by unfold textFault; rw [if_neg h]
  rw [e0]
  refine (parse_syntax s h' w).mono ?_
  rintro e w' ⟨he, hb⟩
  exact ⟨_, he, fun h' => by omega, fun _ => rfl, hb⟩
theorem parse_any (s : ByteArray) (hz : s.size ≤ 9223372036854775807) (w : World) :
    Calls Tryz.prog 98 #[.string s] w fun e w' => ∃ v, e = .returned (.tuple #[v, errV (textFault s.data.toList)]) ∧ (textFault s.data.toList = 0 → Reads w' v (readN s.data.toList)) ∧ (¬ textFault s.data.toList = 0 → v = .slice none 0 0) ∧ Below w.heap.size w w' := by
 refine (parse_fresh s hz w).mono ?_
 rintro e w' ⟨v, he, h1, h2, hb⟩
 exact ⟨v, he, fun h => (h1 h).1, h2, hb⟩
end Go.Proofs.YtjmeakkmfeoigaaGreatDoor
namespace Go.Proofs.YtjmeakkmfeoigaaGreatDoor
open Go.ChangeShapes Go.WideShapes Go.ChangeAt Go.RowKit
theorem infoByte : (Tryz.prog.info? 5).map (fun i => (i.zero, i.size, i.bytes)) = some (some (.int .u8 0), 1, 1) := by kernel_rfl
def strOf (l : List UInt8) : ByteArray := ⟨l.toArray⟩
def printS (t : List Int) : ByteArray := if faultN t = 0 then strOf (textN t) else ⟨#[]⟩
theorem print_bad (t : List Int) (v : Value) (w : World) (h : Reads w v t) (hf : ¬ faultN t = 0) :
    Calls Tryz.prog 89 #[v] w (Bk w (.tuple #[.string ⟨#[]⟩, .iface 64 (.int .i64 (faultN t))])) := by
 have HC : Hid (Calls Tryz.prog 68 #[v] w (Sk w (.iface 64 (.int .i64 (faultN t))))) := by
  have := tcheck_any t v _ h
  unfold errV at this
  rw [if_neg hf] at this
  exact this
 clear h hf
 obtain ⟨F, hF⟩ := nm (faultN t)
 rw [← hF] at HC ⊢
 clear hF
 go_enter Tryz.func89, Tryz.ntmps89
 go_wp2_with (go_at_call 68; refine HC.out.mono ?_; rintro e w' ⟨rfl, rfl⟩)
 go_ret2
 exact ⟨rfl, Below.refl _ _⟩
set_option maxRecDepth 100000 in
set_option maxHeartbeats 4000000 in
theorem print_good (t : List Int) (B off cap : Nat) (w : World) (hB : B < w.heap.size) (hcap : t.length ≤ cap) (hf : faultN t = 0) (hc : ∀ k, k < t.length → w.cell? ⟨B, off + k, none⟩ = some (.int .i64 (t.getD k 0))) :
    Calls Tryz.prog 89 #[.slice (some ⟨B, off, none⟩) t.length cap] w fun e w' => e = .returned (.tuple #[.string (strOf (textN t)), .nilIface]) ∧ Below w.heap.size w w' := by
 obtain ⟨i0, hi, hz0, hz1, hz2⟩ := info_parts infoByte
 obtain ⟨f1, f2, f3, f4⟩ := fault_zero.1 hf
 have HC : Hid (Calls Tryz.prog 68 #[.slice (some ⟨B, off, none⟩) t.length cap] w (Sk w .nilIface)) := by
  have := tcheck_any t (.slice (some ⟨B, off, none⟩) t.length cap) w (Or.inr ⟨B, off, cap, rfl, hB, by omega, ⟨by omega, hcap⟩, hc⟩)
  rw [hf] at this
  exact this
 have HC1 := hide hc
 have HB := hide hB
 have HS := hide f3
 clear hc hB f1 f3 f4 hf hcap
 obtain ⟨n, hn⟩ := nm t.length
 rw [← hn] at HC f2 ⊢
 have HN := hide hn
 clear hn
 obtain ⟨f, hf⟩ : ∃ f : Nat → Value, f = fun j => .int .u8 ((byteOf (t.getD j 0)).toNat : Int) := ⟨_, rfl⟩
 have HF := hide hf
 clear hf
 obtain ⟨G, hG⟩ := nm w.heap.size
 have HG := hide hG
 obtain ⟨T, hT⟩ := nm (strOf (textN t))
 rw [← hT]
 have HT := hide hT
 clear hT
 go_enter Tryz.func89, Tryz.ntmps89
 go_wp2_with (first | (go_at_call 68; refine HC.out.mono ?_; rintro e w' ⟨rfl, rfl⟩) | (at_make; refine wpList_make_full _ rfl _ _ 190 rfl G 5 i0 (.int .u8 0) 1 Tryz.underlying190 hi hz0 hz1 .i64 .i64 _ _ n rfl rfl ?m0 ?m1 ?m2 ?m3 ?m4 ?_))
 case m0 => rfl
 case m1 => rfl
 case m2 => rw [hz2]; omega
 case m3 => unfold maxLen; omega
 case m4 => omega
 intro w1 hown1 hgrow1
 have HO : Hid (w1.ownsRow G 5 1 (.slice (some ⟨G, 0, none⟩) n n) n (fill f (.int .u8 0) n 0) ∧ Below G w w1) := by
  refine ⟨?_, ?_⟩
  ·rw [fill_zero, ← toList_madeCells_one, hG]
   simpa [Value.cells, hG] using hown1
  ·exact (Below.refl _ _).grown hgrow1 (by omega) (fun k hk => by cases hk)
 rw [← hG]
 clear hown1 hgrow1 hG HC
 go_wp2
 go_loopw [18] (fun i wr => ∃ k : Nat, k ≤ n ∧ i = .int .i64 k ∧ wr.ownsRow G 5 1 (.slice (some ⟨G, 0, none⟩) n n) n (fill f (.int .u8 0) n k) ∧ Below G w wr) (fun i _ => n - (intOf i).toNat)
 case atStart => exact ⟨0, Nat.zero_le _, rfl, HO.out.1, HO.out.2⟩
 case round =>
  obtain ⟨k, hk, rfl, hown, hbel⟩ := hrel
  by_cases hlt : k < n
  ·obtain ⟨s, hs⟩ := nm (t.getD k 0)
   have hkt : k < t.length := by rw [← HN.out]; exact hlt
   have hcell : wr.cell? ⟨B, off + k, none⟩ = some (.int .i64 s) := by rw [hs, hbel.cell (by rw [HG.out]; exact HB.out)]; exact HC1.out k hkt
   have hsg : signB s = true := by
    refine List.all_eq_true.1 HS.out s ?_
    rw [hs, List.getD_eq_getElem?_getD, List.getElem?_eq_getElem hkt]; exact List.getElem_mem hkt
   have hfr : wr.frozen? ⟨G, k, none⟩ = false := hown.frozenAt k
   have hcg : wr.cell? ⟨G, k, none⟩ = some (.int .u8 0) := by rw [hown.cellAt k (by omega), fill_get _ _ _ _ _ hlt, if_neg (by omega)]
   have HR : Hid ((wr.setCell ⟨G, k, none⟩ (.int .u8 ((byteOf s).toNat : Int))).ownsRow G 5 1 (.slice (some ⟨G, 0, none⟩) n n) n (fill f (.int .u8 0) n (k + 1)) ∧ Below G w (wr.setCell ⟨G, k, none⟩ (.int .u8 ((byteOf s).toNat : Int)))) := by
    have := hown.stored k (f k)
    rw [fill_set] at this
    have e : f k = .int .u8 ((byteOf s).toNat : Int) := by rw [HF.out, hs]
    rw [e] at this
    exact ⟨this.1, hbel.setCell (Nat.le_refl _) _⟩
   clear hs hkt hown hbel
   rcases nine hsg with rfl | rfl | rfl | rfl | rfl | rfl | rfl | rfl | rfl
   all_goals
    clear hsg
    go_wp2
    go_roundw
    case rel => exact ⟨k + 1, by omega, by go_num, HR.out.1, HR.out.2⟩
    case measure => simp [intOf]; omega
  ·obtain rfl : k = n := by omega
   have HCV : Hid (∀ dst, Tryz.prog.underlying dst = some .string → (convert 190 dst (.slice (some ⟨G, 0, none⟩) k k)).run Tryz.prog wr = .ok (.string T) wr) := by
    intro dst hd
    have e1 : (textN t).length = k := by rw [HN.out]; simp [textN]
    have := run_convert_bytes_back (P := Tryz.prog) wr 190 dst 5 ⟨G, 0, none⟩ k (textN t) Tryz.underlying190 Tryz.underlying5 hd (fun j hj => by
     have hjk : j < k := by omega
     have ha : (⟨G, 0, none⟩ : Addr).add j = ⟨G, j, none⟩ := by unfold Addr.add; split <;> simp_all
     rw [ha, hown.cellAt j (by omega), fill_get _ _ _ _ _ hjk, if_pos hjk, HF.out]
     have hjt : j < t.length := by rw [← HN.out]; exact hjk
     simp [textN, List.getElem?_eq_getElem hjt])
    rw [e1] at this
    rw [HT.out]; exact this
   have hcv := HCV.out
   have HBw : Hid (Below w.heap.size w wr) := by unfold Hid; rw [← HG.out]; exact hbel
   clear hown hbel
   go_wp2
   go_ret2
   exact ⟨rfl, HBw.out⟩
theorem print_any (t : List Int) (v : Value) (w : World) (h : Reads w v t) :
    Calls Tryz.prog 89 #[v] w (Bk w (.tuple #[.string (printS t), errV (faultN t)])) := by
 by_cases hf : faultN t = 0
 ·have e1 : printS t = strOf (textN t) := by unfold printS; rw [if_pos hf]
  rw [e1, hf]
  rcases h with ⟨ao, cap, rfl, rfl⟩ | ⟨B, off, cap, rfl, hB, _, ⟨_, hcap⟩, hc⟩
  ·exact absurd hf (by decide)
  ·exact print_good t B off cap w hB hcap hf hc
 ·have e1 : printS t = ⟨#[]⟩ := by unfold printS; rw [if_neg hf]
  have e2 : errV (faultN t) = .iface 64 (.int .i64 (faultN t)) := by unfold errV; rw [if_neg hf]
  rw [e1, e2]
  exact print_bad t v w h hf
end Go.Proofs.YtjmeakkmfeoigaaGreatDoor