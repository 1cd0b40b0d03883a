/-
  Proved: what strings.ContainsFunc returns at Parse's own function, of any text (whether it has a byte that is none of the nine letters); what was in memory is as it was (contracts that the statements lean on).
-/
import Derived.Test.YtenmheenieifpabGreatDoorTermLetters2
namespace Go.Proofs.YtenmheenieifpabGreatDoor
open Go.ChangeShapes Go.WideShapes Go.ChangeAt Go.RowKit
set_option maxRecDepth 100000

def runeI (r : Nat) : Int := if r < 128 then signOf (UInt8.ofNat r) else -1
theorem runeI_iff (r : Nat) : (decide (0 ≤ runeI r)) = runeB r := by
  unfold runeI runeB
  by_cases h : r < 128
  · rw [if_pos h]
    rcases byte_all (UInt8.ofNat r) with h1 | h1
    · rw [h1]; simp
    · have := signB_iff.1 h1.1
      have e : (signOf (UInt8.ofNat r) != -1) = true := by simp; omega
      rw [e]; simp [h]; omega
  · rw [if_neg h]; simp [h]
theorem tail_high (n : Nat) : 128 ≤ ((UInt8.ofNat (128 + n % 64)).toNat : Int) := by
  have : (UInt8.ofNat (128 + n % 64)).toNat = 128 + n % 64 := by simp; omega
  rw [this]; omega

theorem indexRune_any (r : Nat) (hr : r ≤ 1114111) (w : World) :
    Calls Tryz.prog 77 #[.string { data := #[65, 66, 67, 48, 49, 43, 42, 45, 126] }, .int .i32 r] w fun e w' => e = .returned (.int .i64 (runeI r)) ∧ Below w.heap.size w w' := by
  unfold runeI
  by_cases h : r < 128
  · rw [if_pos h]; exact indexRune_low r h w
  rw [if_neg h]
  by_cases he : r = 65533
  · subst he; exact indexRune_err w
  by_cases hs : 55296 ≤ r ∧ r ≤ 57343
  · exact indexRune_no (r : Int) (by omega) (by omega) w
  have hv : Utf8.valid (r : Int) = true := by
    unfold Utf8.valid
    rw [Bool.or_eq_true, Bool.and_eq_true, Bool.and_eq_true]
    simp only [decide_eq_true_eq]
    omega
  have hE : Utf8.encode (r : Int) = if r < 128 then ⟨#[UInt8.ofNat r]⟩ else if r < 2048 then ⟨#[UInt8.ofNat (192 + r / 64), UInt8.ofNat (128 + r % 64)]⟩ else if r < 65536 then ⟨#[UInt8.ofNat (224 + r / 4096), UInt8.ofNat (128 + r / 64 % 64), UInt8.ofNat (128 + r % 64)]⟩ else ⟨#[UInt8.ofNat (240 + r / 262144), UInt8.ofNat (128 + r / 4096 % 64), UInt8.ofNat (128 + r / 64 % 64), UInt8.ofNat (128 + r % 64)]⟩ := by
    unfold Utf8.encode
    rw [if_pos hv]
    rfl
  rw [if_neg h] at hE
  by_cases h2 : r < 2048
  · rw [if_pos h2] at hE
    exact indexRune_two (r : Int) (by omega) (by omega) _ _ hE (tail_high r) w
  rw [if_neg h2] at hE
  by_cases h3 : r < 65536
  · rw [if_pos h3] at hE
    exact indexRune_three (r : Int) (by omega) (by omega) (by omega) (by omega) _ _ _ hE (tail_high r) w
  rw [if_neg h3] at hE
  exact indexRune_four (r : Int) (by omega) (by omega) _ _ _ _ hE (tail_high r) w

theorem containsRune_any (r : Nat) (hr : r ≤ 1114111) (w : World) :
    Calls Tryz.prog 56 #[.string { data := #[65, 66, 67, 48, 49, 43, 42, 45, 126] }, .int .i32 r] w fun e w' => e = .returned (.bool (runeB r)) ∧ Below w.heap.size w w' := by
  have HC : Hid (∀ W, Calls Tryz.prog 77 #[.string { data := #[65, 66, 67, 48, 49, 43, 42, 45, 126] }, .int .i32 r] W fun e w' => e = .returned (.int .i64 (runeI r)) ∧ Below W.heap.size W w') := fun W => indexRune_any r hr W
  have HI : Hid (decide (0 ≤ runeI r) = runeB r) := runeI_iff r
  clear hr
  go_enter Tryz.func56, Tryz.ntmps56
  go_wp2_with (go_at_call 77; refine (HC.out _).mono ?_; rintro e w' ⟨rfl, hb⟩)
  go_ret
  exact ⟨back_b HI.out, hb⟩

theorem noLetter_any (r : Nat) (hr : r ≤ 1114111) (w : World) :
    Calls Tryz.prog 55 #[.int .i32 r] w fun e w' => e = .returned (.bool (!runeB r)) ∧ Below w.heap.size w w' := by
  have HC : Hid (∀ W, Calls Tryz.prog 56 #[.string { data := #[65, 66, 67, 48, 49, 43, 42, 45, 126] }, .int .i32 r] W fun e w' => e = .returned (.bool (runeB r)) ∧ Below W.heap.size W w') := fun W => containsRune_any r hr W
  clear hr
  go_enter Tryz.func55, Tryz.ntmps55
  go_wp2_with (go_at_call 56; refine (HC.out _).mono ?_; rintro e w' ⟨rfl, hb⟩)
  go_ret
  exact ⟨rfl, hb⟩

/-! ### the first byte that is no letter -/
theorem decode_low (s : ByteArray) (pos : Nat) (h : pos < s.size) (ha : (s[pos]'h).toNat < 128) : Utf8.decode s pos = ((s[pos]'h).toNat, 1) := by
  simp only [Utf8.decode, get_at s pos h, ha, if_true]
/-- where the first byte is that is no letter, from a place on. -/
def badFrom : List UInt8 → Nat → Int
  | [], _ => -1
  | b :: l, k => if (signOf b != -1) = true then badFrom l (k + 1) else k
theorem badFrom_iff (l : List UInt8) (k : Nat) : decide (0 ≤ badFrom l k) = !lettersB l := by
  induction l generalizing k with
  | nil => rfl
  | cons b l ih =>
    unfold badFrom lettersB
    rw [List.all_cons]
    by_cases h : (signOf b != -1) = true
    · rw [if_pos h, h]; exact ih (k + 1)
    · have h' : (signOf b != -1) = false := by simpa using h
      rw [if_neg h, h']; simp
theorem badFrom_drop (s : ByteArray) {k : Nat} (hk : k < s.size) : badFrom (s.data.toList.drop k) k = if (signOf (s[k]'hk) != -1) = true then badFrom (s.data.toList.drop (k + 1)) (k + 1) else k := by
  have hk' : k < s.data.toList.length := by rw [Array.length_toList]; exact hk
  rw [List.drop_eq_getElem_cons hk']
  rfl
theorem letter_low (b : UInt8) (h : (signOf b != -1) = true) : b.toNat < 128 := by
  have h' : signOf b ≠ -1 := by simpa using h
  have := byte_sign h'
  rw [← this.2]
  rcases nine this.1 with e | e | e | e | e | e | e | e | e <;> rw [e] <;> decide

theorem rune_le (s : ByteArray) (pos : Nat) : (Utf8.decode s pos).1 ≤ 1114111 := by
  have hb : ∀ k, (s.get! (pos + k)).toNat < 256 := fun k => (s.get! (pos + k)).toNat_lt
  have h0 := hb 0; have h1 := hb 1; have h2 := hb 2; have h3 := hb 3
  simp only [Utf8.decode]
  repeat' split
  all_goals simp_all [Utf8.runeError, Utf8.valid]
  all_goals omega

set_option maxRecDepth 100000 in
set_option maxHeartbeats 2000000 in
theorem indexFunc_text (s : ByteArray) (w : World) :
    Calls Tryz.prog 99 #[.string s, .func (.func 55) #[] #[], .bool true] w fun e w' => e = .returned (.int .i64 (badFrom s.data.toList 0)) ∧ Below w.heap.size w w' := by
  obtain ⟨A, hA⟩ : ∃ A, A = badFrom s.data.toList 0 := ⟨_, rfl⟩
  rw [← hA]
  have HA : Hid (A = badFrom s.data.toList 0) := hA
  clear hA
  go_enter Tryz.func99, Tryz.ntmps99
  go_wp2
  go_loopg [] s.size (fun gf wx => ∃ pos : Nat, pos + gf = s.size ∧ wx.heap[w.heap.size]? = some (.stringIter s pos) ∧ Below w.heap.size w wx ∧ badFrom (s.data.toList.drop pos) pos = A)
  case atStart => exact ⟨0, by omega, World.iter_heap w s 0, (Below.refl _ w).alloc (Nat.le_refl _) _, HA.out.symm⟩
  case round =>
    obtain ⟨pos, hpos, hit, hbw, hbad⟩ := hrel
    by_cases hps : pos < s.size
    · obtain ⟨g', rfl⟩ : ∃ g', gk = g' + 1 := ⟨gk - 1, by omega⟩
      have hnx : ∀ ty, (Instr.next (.pointer (some ⟨w.heap.size, 0, none⟩)) true ty).run Tryz.prog wr = _ := fun ty => Lib.run_next_any_at wr w.heap.size s pos ty hit hps
      have hbd := badFrom_drop s hps
      have hle := rune_le s pos
      by_cases hL : (signOf (s[pos]'hps) != -1) = true
      · rw [if_pos hL, hbad] at hbd
        have hlow := letter_low _ hL
        have hd := decode_low s pos hps hlow
        have hrb := runeB_low _ hlow
        rw [hL] at hrb
        obtain ⟨R, hR⟩ : ∃ R, (s[pos]'hps).toNat = R := ⟨_, rfl⟩
        rw [hR] at hrb hd
        rw [hd] at hnx hle
        have hit2 := Lib.iterAt_heap wr w.heap.size s pos (pos + 1) hit
        have hbw2 := Lib.below_iterAt hbw (k := w.heap.size) (Nat.le_refl _) s (pos + 1)
        simp only at hnx
        obtain ⟨W, hWd⟩ : ∃ W, wr.iterAt w.heap.size s (pos + 1) = W := ⟨_, rfl⟩
        rw [hWd] at hnx hit2 hbw2
        have HI : Hid (W.heap[w.heap.size]? = some (.stringIter s (pos + 1)) ∧ Below w.heap.size w W) := ⟨hit2, hbw2⟩
        have HL : Hid (w.heap.size < W.heap.size) := (Array.getElem?_eq_some_iff.1 hit2).1
        have HB : Hid (A = badFrom (s.data.toList.drop (pos + 1)) (pos + 1)) := hbd
        have HN : Hid (Calls Tryz.prog 55 #[.int .i32 R] W fun e w' => e = .returned (.bool false) ∧ Below W.heap.size W w') := by
          have := noLetter_any R hle W
          rw [hrb] at this; exact this
        clear hit hbw hit2 hbw2 hWd hd hR hbad hbd hlow hL hrb hle
        go_wp2_with (go_at_call 55; refine HN.out.mono ?_; rintro e W' ⟨rfl, hbc⟩)
        go_roundg g'
        case measure => omega
        case rel => exact ⟨pos + 1, by omega, (hbc.block _ HL.out).trans HI.out.1, HI.out.2.trans (hbc.mono HI.out.2.size), HB.out.symm⟩
      · rw [if_neg hL, hbad] at hbd
        have hL' : (signOf (s[pos]'hps) != -1) = false := by simpa using hL
        have hrb : runeB (Utf8.decode s pos).1 = false := by
          by_cases hlow : (s[pos]'hps).toNat < 128
          · rw [decode_low s pos hps hlow, runeB_low _ hlow]; exact hL'
          · exact runeB_high (decode_high s pos hps (by omega)).1
        obtain ⟨R, hR⟩ : ∃ R, (Utf8.decode s pos).1 = R := ⟨_, rfl⟩
        obtain ⟨K, hK⟩ : ∃ K, (Utf8.decode s pos).2 = K := ⟨_, rfl⟩
        rw [hR] at hrb hnx hle
        rw [hK] at hnx
        have hbw2 := Lib.below_iterAt hbw (k := w.heap.size) (Nat.le_refl _) s (pos + K)
        obtain ⟨W, hWd⟩ : ∃ W, wr.iterAt w.heap.size s (pos + K) = W := ⟨_, rfl⟩
        rw [hWd] at hnx hbw2
        have HI : Hid (Below w.heap.size w W) := hbw2
        have HB : Hid (A = pos) := hbd
        have HN : Hid (Calls Tryz.prog 55 #[.int .i32 R] W fun e w' => e = .returned (.bool true) ∧ Below W.heap.size W w') := by
          have := noLetter_any R hle W
          rw [hrb] at this; exact this
        clear hit hbw hbw2 hWd hR hK hbad hbd hL hL' hrb hle
        go_wp2_with (go_at_call 55; refine HN.out.mono ?_; rintro e W' ⟨rfl, hbc⟩)
        go_ret
        exact ⟨back_i HB.out.symm, HI.out.trans (hbc.mono HI.out.size)⟩
    · have hnx : ∀ ty, (Instr.next (.pointer (some ⟨w.heap.size, 0, none⟩)) true ty).run Tryz.prog wr = _ := fun ty => Lib.run_next_end_at wr w.heap.size s pos ty hit hps
      have HB : Hid (Below w.heap.size w wr) := hbw
      have HE : Hid (-1 = A) := by
        rw [List.drop_eq_nil_of_le (by have : s.data.toList.length = s.size := Array.length_toList
                                       omega)] at hbad
        exact hbad
      clear hit hbw hbad
      go_wp2
      go_ret
      exact ⟨back_i HE.out, HB.out⟩

theorem IndexFunc_text (s : ByteArray) (w : World) :
    Calls Tryz.prog 78 #[.string s, .func (.func 55) #[] #[]] w fun e w' => e = .returned (.int .i64 (badFrom s.data.toList 0)) ∧ Below w.heap.size w w' := by
  have HC := indexFunc_text s w
  have HC' : Hid (Calls Tryz.prog 99 #[.string s, .func (.func 55) #[] #[], .bool true] w fun e w' => e = .returned (.int .i64 (badFrom s.data.toList 0)) ∧ Below w.heap.size w w') := HC
  clear HC
  go_enter Tryz.func78, Tryz.ntmps78
  go_wp2_with (go_at_call 99; refine HC'.out.mono ?_; rintro e w' ⟨rfl, hb⟩)
  go_ret
  exact ⟨rfl, hb⟩

theorem containsFunc_text (s : ByteArray) (w : World) :
    Calls Tryz.prog 57 #[.string s, .func (.func 55) #[] #[]] w fun e w' => e = .returned (.bool (!lettersB s.data.toList)) ∧ Below w.heap.size w w' := by
  have HC : Hid (Calls Tryz.prog 78 #[.string s, .func (.func 55) #[] #[]] w fun e w' => e = .returned (.int .i64 (badFrom s.data.toList 0)) ∧ Below w.heap.size w w') := IndexFunc_text s w
  have HI : Hid (decide (0 ≤ badFrom s.data.toList 0) = !lettersB s.data.toList) := badFrom_iff _ 0
  obtain ⟨I, hI⟩ : ∃ I, I = badFrom s.data.toList 0 := ⟨_, rfl⟩
  rw [← hI] at HC HI
  clear hI
  go_enter Tryz.func57, Tryz.ntmps57
  go_wp2_with (go_at_call 78; refine HC.out.mono ?_; rintro e w' ⟨rfl, hb⟩)
  go_ret
  exact ⟨back_b HI.out, hb⟩
end Go.Proofs.YtenmheenieifpabGreatDoor
