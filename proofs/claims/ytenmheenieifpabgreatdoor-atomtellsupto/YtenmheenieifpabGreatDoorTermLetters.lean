/-
  Proved: what strings.IndexByte returns, and what strings.IndexRune, ContainsRune and Parse's own function return at the nine letters, of any rune; what was in memory is as it was (contracts that the statements lean on).
-/
import Derived.Test.YtenmheenieifpabGreatDoorTermFill
import Derived.Lib.Bytealg
import Derived.Lib.OthersKept
import Derived.Laws.RangeAny
import Derived.Deep.LoopGhost
namespace Go.Proofs.YtenmheenieifpabGreatDoor
open Go.ChangeShapes Go.WideShapes Go.ChangeAt Go.RowKit
set_option maxRecDepth 100000

theorem sIndexByte_any (s : ByteArray) (c : Int) (w : World) :
    Calls Tryz.prog 79 #[.string s, .int .u8 c] w fun e w' => e = .returned (.int .i64 (Lib.indexByte s.data.toList c.toNat.toUInt8)) ∧ w = w' := by
  go_enter Tryz.func79, Tryz.ntmps79
  go_wp2
  rw [run_callFunc_extern Tryz.func100 (by kernel_rfl) (by kernel_rfl) (by kernel_rfl) (e := Extern.BytealgIndexByte.indexByte) (by kernel_rfl), Lib.run_indexByteString]
  simp only [Result.andThen]
  rw [Oper.upon_value]
  go_wp2
  go_ret
  exact ⟨rfl, rfl⟩
theorem indexByte_any (s : ByteArray) (c : Int) (w : World) :
    Calls Tryz.prog 58 #[.string s, .int .u8 c] w fun e w' => e = .returned (.int .i64 (Lib.indexByte s.data.toList c.toNat.toUInt8)) ∧ w = w' := by
  go_enter Tryz.func58, Tryz.ntmps58
  go_wp2_with (go_at_call 79; refine (sIndexByte_any _ _ _).mono ?_; rintro e w' ⟨rfl, rfl⟩)
  go_ret
  exact ⟨rfl, rfl⟩

theorem index_sign : ∀ b : UInt8, Lib.indexByte letterL b = signOf b := by
  intro b
  have h : ∀ n : Fin 256, Lib.indexByte letterL ⟨⟨n⟩⟩ = signOf ⟨⟨n⟩⟩ := by decide +kernel
  exact h b.toBitVec.toFin
/-- IndexByte at the nine letters. -/
theorem indexLetter_any (b : UInt8) (w : World) :
    Calls Tryz.prog 58 #[.string { data := #[65, 66, 67, 48, 49, 43, 42, 45, 126] }, .int .u8 (b.toNat : Int)] w fun e w' => e = .returned (.int .i64 (signOf b)) ∧ w = w' := by
  have := indexByte_any { data := #[65, 66, 67, 48, 49, 43, 42, 45, 126] } (b.toNat : Int) w
  have e : Lib.indexByte (ByteArray.mk #[65, 66, 67, 48, 49, 43, 42, 45, 126]).data.toList (b.toNat : Int).toNat.toUInt8 = signOf b := by
    rw [← index_sign b, Int.toNat_natCast]
    congr 1
    simp
  rwa [e] at this

/-- is a rune one of the nine? -/
def runeB (r : Nat) : Bool := decide (r < 128) && (signOf (UInt8.ofNat r) != -1)
theorem runeB_low (b : UInt8) (h : b.toNat < 128) : runeB b.toNat = (signOf b != -1) := by
  simp [runeB, h]
theorem runeB_high {r : Nat} (h : 128 ≤ r) : runeB r = false := by
  simp [runeB]; omega
theorem no_high : ∀ (k : Nat), k ≤ 9 → ∀ b : UInt8, 128 ≤ b.toNat → Lib.indexByte (letterL.drop k) b = -1 := by
  intro k hk b hb
  have h : ∀ k : Fin 10, ∀ n : Fin 256, 128 ≤ n.val → Lib.indexByte (letterL.drop k.val) ⟨⟨n⟩⟩ = -1 := by decide +kernel
  exact h ⟨k, by omega⟩ b.toBitVec.toFin hb

set_option maxRecDepth 100000 in
set_option maxHeartbeats 1000000 in
/-- IndexRune at the nine letters: an ASCII rune. -/
theorem indexRune_low (r : Nat) (hr : r < 128) (w : World) :
    Calls Tryz.prog 77 #[.string { data := #[65, 66, 67, 48, 49, 43, 42, 45, 126] }, .int .i32 r] w fun e w' => e = .returned (.int .i64 (signOf (UInt8.ofNat r))) ∧ Below w.heap.size w w' := by
  have hb : (UInt8.ofNat r).toNat = r := by simp; omega
  have c : Calls Tryz.prog 58 #[.string { data := #[65, 66, 67, 48, 49, 43, 42, 45, 126] }, .int .u8 (r : Int)] w fun e w' => e = .returned (.int .i64 (signOf (UInt8.ofNat r))) ∧ w = w' := by
    have := indexLetter_any (UInt8.ofNat r) w
    rwa [hb] at this
  have HC : Hid (Calls Tryz.prog 58 #[.string { data := #[65, 66, 67, 48, 49, 43, 42, 45, 126] }, .int .u8 (r : Int)] w fun e w' => e = .returned (.int .i64 (signOf (UInt8.ofNat r))) ∧ w = w') := c
  clear c hb
  go_enter Tryz.func77, Tryz.ntmps77
  go_wp2_with (go_at_call 58; refine HC.out.mono ?_; rintro e w' ⟨rfl, rfl⟩)
  go_ret
  exact ⟨rfl, Below.refl _ _⟩
set_option maxRecDepth 100000 in
theorem validRune_no (r : Int) (h0 : 55296 ≤ r) (h1 : r ≤ 57343) (w : World) :
    Calls Tryz.prog 96 #[.int .i32 r] w fun e w' => e = .returned (.bool false) ∧ w = w' := by
  go_enter Tryz.func96, Tryz.ntmps96
  go_wp2
  go_ret
  exact ⟨rfl, rfl⟩
set_option maxRecDepth 100000 in
theorem validRune_ok (r : Int) (h0 : 0 ≤ r) (h : r < 55296 ∨ 57343 < r ∧ r ≤ 1114111) (w : World) :
    Calls Tryz.prog 96 #[.int .i32 r] w fun e w' => e = .returned (.bool true) ∧ w = w' := by
  rcases h with h | ⟨h, h'⟩
  all_goals
    go_enter Tryz.func96, Tryz.ntmps96
    go_wp2
    go_ret
    exact ⟨rfl, rfl⟩

set_option maxRecDepth 100000 in
set_option maxHeartbeats 1000000 in
theorem indexRune_no (r : Int) (h0 : 55296 ≤ r) (h1 : r ≤ 57343) (w : World) :
    Calls Tryz.prog 77 #[.string { data := #[65, 66, 67, 48, 49, 43, 42, 45, 126] }, .int .i32 r] w fun e w' => e = .returned (.int .i64 (-1)) ∧ Below w.heap.size w w' := by
  go_enter Tryz.func77, Tryz.ntmps77
  go_wp2_with (go_at_call 96; refine (validRune_no _ h0 h1 _).mono ?_; rintro e w' ⟨rfl, rfl⟩)
  go_ret
  exact ⟨rfl, Below.refl _ _⟩

theorem decode_letter : ∀ pos : Nat, pos < 9 → (Utf8.decode { data := #[65, 66, 67, 48, 49, 43, 42, 45, 126] } pos).1 < 128 ∧ (Utf8.decode { data := #[65, 66, 67, 48, 49, 43, 42, 45, 126] } pos).2 = 1 := by
  decide +kernel

set_option maxRecDepth 100000 in
set_option maxHeartbeats 2000000 in
theorem indexRune_err (w : World) :
    Calls Tryz.prog 77 #[.string { data := #[65, 66, 67, 48, 49, 43, 42, 45, 126] }, .int .i32 65533] w fun e w' => e = .returned (.int .i64 (-1)) ∧ Below w.heap.size w w' := by
  obtain ⟨s, hs⟩ : ∃ s : ByteArray, s = { data := #[65, 66, 67, 48, 49, 43, 42, 45, 126] } := ⟨_, rfl⟩
  have HD : Hid (∀ pos : Nat, pos < 9 → (Utf8.decode s pos).1 < 128 ∧ (Utf8.decode s pos).2 = 1) := by unfold Hid; rw [hs]; exact decode_letter
  have HZ : Hid (s.size = 9) := by unfold Hid; rw [hs]; rfl
  rw [← hs]
  clear hs
  go_enter Tryz.func77, Tryz.ntmps77
  go_wp2
  go_loopg [] 9 (fun gf wx => ∃ pos : Nat, pos + gf = 9 ∧ wx.heap[w.heap.size]? = some (.stringIter s pos) ∧ Below w.heap.size w wx)
  case atStart => exact ⟨0, rfl, World.iter_heap w s 0, (Below.refl _ w).alloc (Nat.le_refl _) _⟩
  case round =>
    obtain ⟨pos, hpos, hit, hbw⟩ := hrel
    by_cases hps : pos < 9
    · obtain ⟨g', rfl⟩ : ∃ g', gk = g' + 1 := ⟨gk - 1, by omega⟩
      have hnx : ∀ ty, (Instr.next (.pointer (some ⟨w.heap.size, 0, none⟩)) true ty).run Tryz.prog wr = _ := fun ty => Lib.run_next_any_at wr w.heap.size s pos ty hit (by rw [HZ.out]; exact hps)
      have hd := HD.out pos hps
      have hit2 := Lib.iterAt_heap wr w.heap.size s pos (pos + 1) hit
      have hbw2 := Lib.below_iterAt hbw (k := w.heap.size) (Nat.le_refl _) s (pos + 1)
      obtain ⟨R, hR⟩ : ∃ R, (Utf8.decode s pos).1 = R := ⟨_, rfl⟩
      rw [hR, hd.2] at hnx
      rw [hR] at hd
      have hR' : ((R : Int) == 65533) = false := by simp; omega
      obtain ⟨W, hWd⟩ : ∃ W, wr.iterAt w.heap.size s (pos + 1) = W := ⟨_, rfl⟩
      rw [hWd] at hnx hit2 hbw2
      have HI : Hid (W.heap[w.heap.size]? = some (.stringIter s (pos + 1)) ∧ Below w.heap.size w W) := ⟨hit2, hbw2⟩
      clear hit hbw hit2 hbw2 hWd hd hR
      go_wp2
      go_roundg g'
      case measure => omega
      case rel => exact ⟨pos + 1, by omega, HI.out.1, HI.out.2⟩
    · have hnx : ∀ ty, (Instr.next (.pointer (some ⟨w.heap.size, 0, none⟩)) true ty).run Tryz.prog wr = _ := fun ty => Lib.run_next_end_at wr w.heap.size s pos ty hit (by rw [HZ.out]; exact hps)
      have HB : Hid (Below w.heap.size w wr) := hbw
      clear hit hbw
      go_wp2
      go_ret
      exact ⟨rfl, HB.out⟩
end Go.Proofs.YtenmheenieifpabGreatDoor
