/-
  Plain facts on the reference's value of a term, thing by thing, and on the nine letters. No program is read here.
  Plain facts on a row of cells that is filled one by one.
  Proved: what strings.IndexByte returns, and what strings.IndexRune, ContainsRune and Parse's own function return at the nine letters, of any rune; what was in memory is as it was (contracts that the statements lean on).
  Proved: what strings.IndexRune returns at the nine letters of a rune beyond ASCII, and what Parse's own function returns of any rune; what was in memory is as it was (contracts that the statements lean on).
  Proved: what strings.ContainsFunc returns at Parse's own function, of any text (whether it has a byte that is none of the nine letters); what was in memory is as it was (contracts that the statements lean on).
-/
import Derived.Test.YtfnkbbpjfjendaiGreatDoorLibTX1
import Derived.Test.YtfnkbbpjfjendaiGreatDoorLibTX2
import Derived.Lib.Bytealg
import Derived.Lib.OthersKept
import Derived.Laws.RangeAny
import Derived.Deep.LoopGhost
import Derived.Scope
import Derived.WalkMore
namespace Go.Proofs.YtfnkbbpjfjendaiGreatDoor
open Go.RowKit

theorem has_do {what u a b : Int} (hl : 5 ≤ what) (hm : what ≤ 8) (ha : okB u a = true) (hb : okB u b = true) (i : Nat) (hi : (i : Int) < u) : hasB (doN what u a b) i = inB what (hasB a i) (hasB b i) := by
  have hd : what = 5 ∨ what = 6 ∨ what = 7 ∨ what = 8 := by omega
  have hj : i < u.toNat := by omega
  rcases hd with rfl | rfl | rfl | rfl
  · exact uptoSets (P := fun u a b => ∀ i < u.toNat, hasB (doN 5 u a b) i = inB 5 (hasB a i) (hasB b i)) (by decide +kernel) u a b ha hb i hj
  · exact uptoSets (P := fun u a b => ∀ i < u.toNat, hasB (doN 6 u a b) i = inB 6 (hasB a i) (hasB b i)) (by decide +kernel) u a b ha hb i hj
  · exact uptoSets (P := fun u a b => ∀ i < u.toNat, hasB (doN 7 u a b) i = inB 7 (hasB a i) (hasB b i)) (by decide +kernel) u a b ha hb i hj
  · exact uptoSets (P := fun u a b => ∀ i < u.toNat, hasB (doN 8 u a b) i = inB 8 (hasB a i) (hasB b i)) (by decide +kernel) u a b ha hb i hj
theorem has_none (i : Nat) : hasB 0 i = false := by simp [hasB]

theorem has_opp {w : Wd} (h : w.ok = true) {n : Nat} {t : List Int} (ht : isTm n t) (i : Nat) (hi : (i : Int) < w.u) : hasB (w.val (t ++ [8])) i = !hasB (w.val t) i := by
  rw [val_opp w ht]
  exact has_do (by omega) (by omega) (ok_val h t) (ok_val h t) i hi
theorem has_two {w : Wd} (h : w.ok = true) {s : Int} (h5 : 5 ≤ s) (h7 : s ≤ 7) {n m : Nat} {a b : List Int} (ha : isTm n a) (hb : isTm m b) (i : Nat) (hi : (i : Int) < w.u) : hasB (w.val (a ++ (b ++ [s]))) i = inB s (hasB (w.val a) i) (hasB (w.val b) i) := by
  rw [val_bin w h5 h7 ha hb]
  exact has_do (by omega) (by omega) (ok_val h a) (ok_val h b) i hi
theorem has_leaf {w : Wd} (h : w.ok = true) (s : Int) (h0 : 0 ≤ s) (h4 : s ≤ 4) (i : Nat) (hi : (i : Int) < w.u) : hasB (w.val [s]) i = if s < 3 then hasB (w.name s) i else s == 4 := by
  have z := ok_zero (ok_u h).1 (ok_u h).2
  rw [val_leaf w s h4]
  unfold Wd.made
  by_cases h3 : s < 3
  · rw [if_pos h3, if_pos h3]
  rw [if_neg h3, if_neg h3]
  by_cases h3' : s = 3
  · subst h3'; rw [if_pos rfl]; exact has_none i
  obtain rfl : s = 4 := by omega
  rw [if_neg h3', if_pos rfl, has_do (by omega) (by omega) z z i hi, has_none]; rfl

/-- the value of a set, thing by thing, of the first k. -/
def sumTo (v : Int) : Nat → Int
  | 0 => 0
  | k + 1 => sumTo v k + if hasB v k = true then pw k else 0
theorem sumTo_le (v : Int) (k : Nat) : 0 ≤ sumTo v k ∧ sumTo v k < pw k := by
  induction k with
  | zero => exact ⟨Int.le_refl _, show (0 : Int) < pw 0 by decide⟩
  | succ k ih =>
    have := pw_pos k
    unfold sumTo
    rw [pw_succ]
    split <;> omega
theorem sumTo_all {u v : Int} (h : okB u v = true) : sumTo v u.toNat = v :=
  uptoSets (P := fun u v _ => sumTo v u.toNat = v) (by decide +kernel) u v v h h

/-! ### the letters -/
/-- the bytes of the signs, one by one. -/
def letterL : List UInt8 := [65, 66, 67, 48, 49, 43, 42, 45, 126]
def letterB : ByteArray := ⟨#[65, 66, 67, 48, 49, 43, 42, 45, 126]⟩
/-- which sign a byte is; -1: none. -/
def signOf (b : UInt8) : Int := if b = 65 then 0 else if b = 66 then 1 else if b = 67 then 2 else if b = 48 then 3 else if b = 49 then 4 else if b = 43 then 5 else if b = 42 then 6 else if b = 45 then 7 else if b = 126 then 8 else -1
/-- the byte of a sign. -/
def byteOf (s : Int) : UInt8 := if s = 0 then 65 else if s = 1 then 66 else if s = 2 then 67 else if s = 3 then 48 else if s = 4 then 49 else if s = 5 then 43 else if s = 6 then 42 else if s = 7 then 45 else 126
theorem nine {s : Int} (h : signB s = true) : s = 0 ∨ s = 1 ∨ s = 2 ∨ s = 3 ∨ s = 4 ∨ s = 5 ∨ s = 6 ∨ s = 7 ∨ s = 8 := by
  have := signB_iff.1 h; omega
theorem sign_byte {s : Int} (h : signB s = true) : signOf (byteOf s) = s := by
  rcases nine h with rfl | rfl | rfl | rfl | rfl | rfl | rfl | rfl | rfl <;> decide
theorem byte_all : ∀ b : UInt8, (signOf b = -1 ∨ (signB (signOf b) = true ∧ byteOf (signOf b) = b)) := by
  intro b
  have h : ∀ n : Fin 256, (signOf ⟨⟨n⟩⟩ = -1 ∨ (signB (signOf ⟨⟨n⟩⟩) = true ∧ byteOf (signOf ⟨⟨n⟩⟩) = ⟨⟨n⟩⟩)) := by decide +kernel
  exact h b.toBitVec.toFin
theorem byte_sign {b : UInt8} (h : signOf b ≠ -1) : signB (signOf b) = true ∧ byteOf (signOf b) = b := (byte_all b).resolve_left h
/-- a term as a text; a text as signs. -/
def textN (t : List Int) : List UInt8 := t.map byteOf
def readN (l : List UInt8) : List Int := l.map signOf
def lettersB (l : List UInt8) : Bool := l.all fun b => signOf b != -1
/-- what is wrong with a text. -/
def textFault (l : List UInt8) : Int := if lettersB l = true then faultN (readN l) else 2
theorem read_text {t : List Int} (h : t.all signB = true) : readN (textN t) = t := by
  induction t with
  | nil => rfl
  | cons s l ih =>
    simp only [List.all_cons, Bool.and_eq_true] at h
    simp only [textN, readN, List.map_cons, sign_byte h.1]
    exact congrArg _ (ih h.2)
theorem letters_text {t : List Int} (h : t.all signB = true) : lettersB (textN t) = true := by
  induction t with
  | nil => rfl
  | cons s l ih =>
    simp only [List.all_cons, Bool.and_eq_true] at h
    have := signB_iff.1 h.1
    simp only [lettersB, textN, List.map_cons, List.all_cons, sign_byte h.1, Bool.and_eq_true, bne_iff_ne, ne_eq]
    exact ⟨by omega, ih h.2⟩
theorem text_read {l : List UInt8} (h : lettersB l = true) : textN (readN l) = l := by
  induction l with
  | nil => rfl
  | cons b l ih =>
    simp only [lettersB, List.all_cons, Bool.and_eq_true, bne_iff_ne, ne_eq] at h
    simp only [textN, readN, List.map_cons, (byte_sign h.1).2]
    exact congrArg _ (ih h.2)
theorem read_signs {l : List UInt8} (h : lettersB l = true) : (readN l).all signB = true := by
  induction l with
  | nil => rfl
  | cons b l ih =>
    simp only [lettersB, List.all_cons, Bool.and_eq_true, bne_iff_ne, ne_eq] at h
    simp only [readN, List.map_cons, List.all_cons, (byte_sign h.1).1, Bool.true_and]
    exact ih h.2
end Go.Proofs.YtfnkbbpjfjendaiGreatDoor

namespace Go.Proofs.YtfnkbbpjfjendaiGreatDoor
open Go.ChangeShapes Go.WideShapes Go.ChangeAt Go.RowKit

/-- a row of n cells of which the first k are filled. -/
def fill (f : Nat → Value) (z : Value) (n k : Nat) : List Value := (List.range n).map fun j => if j < k then f j else z
theorem fill_zero (f : Nat → Value) (z : Value) (n : Nat) : fill f z n 0 = List.replicate n z := by
  apply List.ext_getElem
  · simp [fill]
  · intro j h1 h2; simp [fill]
theorem fill_set (f : Nat → Value) (z : Value) (n k : Nat) : (fill f z n k).set k (f k) = fill f z n (k + 1) := by
  apply List.ext_getElem
  · simp [fill]
  · intro j h1 h2
    simp only [fill, List.getElem_set, List.getElem_map, List.getElem_range]
    by_cases h : k = j
    · subst h; simp
    · rw [if_neg h]
      by_cases h' : j < k
      · rw [if_pos h', if_pos (by omega)]
      · rw [if_neg h', if_neg (by omega)]
theorem fill_get (f : Nat → Value) (z : Value) (n k j : Nat) (hj : j < n) : (fill f z n k)[j]? = some (if j < k then f j else z) := by
  simp [fill, hj]

end Go.Proofs.YtfnkbbpjfjendaiGreatDoor

namespace Go.Proofs.YtfnkbbpjfjendaiGreatDoor
open Go.ChangeShapes Go.WideShapes Go.ChangeAt Go.RowKit
set_option maxRecDepth 100000

theorem sIndexByte_any (s : ByteArray) (c : Int) (w : World) :
    Calls Tryz.prog 79 #[.string s, .int .u8 c] w fun e w' => e = .returned (.int .i64 (Lib.indexByte s.data.toList c.toNat.toUInt8)) ∧ w = w' := by
  go_enter Tryz.func79, Tryz.ntmps79
  go_wp2
  rw [run_callFunc_extern Tryz.func96 (by kernel_rfl) (by kernel_rfl) (by kernel_rfl) (e := Extern.BytealgIndexByte.indexByte) (by kernel_rfl), Lib.run_indexByteString]
  simp only [Result.andThen]
  rw [Oper.upon_value]
  go_wp2
  go_ret
  exact ⟨rfl, rfl⟩
theorem indexByte_any (s : ByteArray) (c : Int) (w : World) :
    Calls Tryz.prog 65 #[.string s, .int .u8 c] w fun e w' => e = .returned (.int .i64 (Lib.indexByte s.data.toList c.toNat.toUInt8)) ∧ w = w' := by
  go_enter Tryz.func65, Tryz.ntmps65
  go_wp2_with (go_at_call 79; refine (sIndexByte_any _ _ _).mono ?_; rintro e w' ⟨rfl, rfl⟩)
  go_ret
  exact ⟨rfl, rfl⟩

theorem index_sign : ∀ b : UInt8, Lib.indexByte letterL b = signOf b := by
  intro b
  have h : ∀ n : Fin 256, Lib.indexByte letterL ⟨⟨n⟩⟩ = signOf ⟨⟨n⟩⟩ := by decide +kernel
  exact h b.toBitVec.toFin
/-- IndexByte at the nine letters. -/
theorem indexLetter_any (b : UInt8) (w : World) :
    Calls Tryz.prog 65 #[.string { data := #[65, 66, 67, 48, 49, 43, 42, 45, 126] }, .int .u8 (b.toNat : Int)] w fun e w' => e = .returned (.int .i64 (signOf b)) ∧ w = w' := by
  have := indexByte_any { data := #[65, 66, 67, 48, 49, 43, 42, 45, 126] } (b.toNat : Int) w
  have e : Lib.indexByte (ByteArray.mk #[65, 66, 67, 48, 49, 43, 42, 45, 126]).data.toList (b.toNat : Int).toNat.toUInt8 = signOf b := by
    rw [← index_sign b, Int.toNat_natCast]
    congr 1
    simp
  rwa [e] at this

/-- is a rune one of the nine? -/
def runeB (r : Nat) : Bool := decide (r < 128) && (signOf (UInt8.ofNat r) != -1)
theorem runeB_low (b : UInt8) (h : b.toNat < 128) : runeB b.toNat = (signOf b != -1) := by
  simp [runeB, h]
theorem runeB_high {r : Nat} (h : 128 ≤ r) : runeB r = false := by
  simp [runeB]; omega
theorem no_high : ∀ (k : Nat), k ≤ 9 → ∀ b : UInt8, 128 ≤ b.toNat → Lib.indexByte (letterL.drop k) b = -1 := by
  intro k hk b hb
  have h : ∀ k : Fin 10, ∀ n : Fin 256, 128 ≤ n.val → Lib.indexByte (letterL.drop k.val) ⟨⟨n⟩⟩ = -1 := by decide +kernel
  exact h ⟨k, by omega⟩ b.toBitVec.toFin hb

set_option maxRecDepth 100000 in
set_option maxHeartbeats 1000000 in
/-- IndexRune at the nine letters: an ASCII rune. -/
theorem indexRune_low (r : Nat) (hr : r < 128) (w : World) :
    Calls Tryz.prog 100 #[.string { data := #[65, 66, 67, 48, 49, 43, 42, 45, 126] }, .int .i32 r] w fun e w' => e = .returned (.int .i64 (signOf (UInt8.ofNat r))) ∧ Below w.heap.size w w' := by
  have hb : (UInt8.ofNat r).toNat = r := by simp; omega
  have c : Calls Tryz.prog 65 #[.string { data := #[65, 66, 67, 48, 49, 43, 42, 45, 126] }, .int .u8 (r : Int)] w fun e w' => e = .returned (.int .i64 (signOf (UInt8.ofNat r))) ∧ w = w' := by
    have := indexLetter_any (UInt8.ofNat r) w
    rwa [hb] at this
  have HC : Hid (Calls Tryz.prog 65 #[.string { data := #[65, 66, 67, 48, 49, 43, 42, 45, 126] }, .int .u8 (r : Int)] w fun e w' => e = .returned (.int .i64 (signOf (UInt8.ofNat r))) ∧ w = w') := c
  clear c hb
  go_enter Tryz.func100, Tryz.ntmps100
  go_wp2_with (go_at_call 65; refine HC.out.mono ?_; rintro e w' ⟨rfl, rfl⟩)
  go_ret
  exact ⟨rfl, Below.refl _ _⟩
set_option maxRecDepth 100000 in
theorem validRune_no (r : Int) (h0 : 55296 ≤ r) (h1 : r ≤ 57343) (w : World) :
    Calls Tryz.prog 115 #[.int .i32 r] w fun e w' => e = .returned (.bool false) ∧ w = w' := by
  go_enter Tryz.func115, Tryz.ntmps115
  go_wp2
  go_ret
  exact ⟨rfl, rfl⟩
set_option maxRecDepth 100000 in
theorem validRune_ok (r : Int) (h0 : 0 ≤ r) (h : r < 55296 ∨ 57343 < r ∧ r ≤ 1114111) (w : World) :
    Calls Tryz.prog 115 #[.int .i32 r] w fun e w' => e = .returned (.bool true) ∧ w = w' := by
  rcases h with h | ⟨h, h'⟩
  all_goals
    go_enter Tryz.func115, Tryz.ntmps115
    go_wp2
    go_ret
    exact ⟨rfl, rfl⟩

set_option maxRecDepth 100000 in
set_option maxHeartbeats 1000000 in
theorem indexRune_no (r : Int) (h0 : 55296 ≤ r) (h1 : r ≤ 57343) (w : World) :
    Calls Tryz.prog 100 #[.string { data := #[65, 66, 67, 48, 49, 43, 42, 45, 126] }, .int .i32 r] w fun e w' => e = .returned (.int .i64 (-1)) ∧ Below w.heap.size w w' := by
  go_enter Tryz.func100, Tryz.ntmps100
  go_wp2_with (go_at_call 115; refine (validRune_no _ h0 h1 _).mono ?_; rintro e w' ⟨rfl, rfl⟩)
  go_ret
  exact ⟨rfl, Below.refl _ _⟩

theorem decode_letter : ∀ pos : Nat, pos < 9 → (Utf8.decode { data := #[65, 66, 67, 48, 49, 43, 42, 45, 126] } pos).1 < 128 ∧ (Utf8.decode { data := #[65, 66, 67, 48, 49, 43, 42, 45, 126] } pos).2 = 1 := by
  decide +kernel

set_option maxRecDepth 100000 in
set_option maxHeartbeats 2000000 in
theorem indexRune_err (w : World) :
    Calls Tryz.prog 100 #[.string { data := #[65, 66, 67, 48, 49, 43, 42, 45, 126] }, .int .i32 65533] w fun e w' => e = .returned (.int .i64 (-1)) ∧ Below w.heap.size w w' := by
  obtain ⟨s, hs⟩ : ∃ s : ByteArray, s = { data := #[65, 66, 67, 48, 49, 43, 42, 45, 126] } := ⟨_, rfl⟩
  have HD : Hid (∀ pos : Nat, pos < 9 → (Utf8.decode s pos).1 < 128 ∧ (Utf8.decode s pos).2 = 1) := by unfold Hid; rw [hs]; exact decode_letter
  have HZ : Hid (s.size = 9) := by unfold Hid; rw [hs]; rfl
  rw [← hs]
  clear hs
  go_enter Tryz.func100, Tryz.ntmps100
  go_wp2
  go_loopg [] 9 (fun gf wx => ∃ pos : Nat, pos + gf = 9 ∧ wx.heap[w.heap.size]? = some (.stringIter s pos) ∧ Below w.heap.size w wx)
  case atStart => exact ⟨0, rfl, World.iter_heap w s 0, (Below.refl _ w).alloc (Nat.le_refl _) _⟩
  case round =>
    obtain ⟨pos, hpos, hit, hbw⟩ := hrel
    by_cases hps : pos < 9
    · obtain ⟨g', rfl⟩ : ∃ g', gk = g' + 1 := ⟨gk - 1, by omega⟩
      have hnx : ∀ ty, (Instr.next (.pointer (some ⟨w.heap.size, 0, none⟩)) true ty).run Tryz.prog wr = _ := fun ty => Lib.run_next_any_at wr w.heap.size s pos ty hit (by rw [HZ.out]; exact hps)
      have hd := HD.out pos hps
      have hit2 := Lib.iterAt_heap wr w.heap.size s pos (pos + 1) hit
      have hbw2 := Lib.below_iterAt hbw (k := w.heap.size) (Nat.le_refl _) s (pos + 1)
      obtain ⟨R, hR⟩ : ∃ R, (Utf8.decode s pos).1 = R := ⟨_, rfl⟩
      rw [hR, hd.2] at hnx
      rw [hR] at hd
      have hR' : ((R : Int) == 65533) = false := by simp; omega
      obtain ⟨W, hWd⟩ : ∃ W, wr.iterAt w.heap.size s (pos + 1) = W := ⟨_, rfl⟩
      rw [hWd] at hnx hit2 hbw2
      have HI : Hid (W.heap[w.heap.size]? = some (.stringIter s (pos + 1)) ∧ Below w.heap.size w W) := ⟨hit2, hbw2⟩
      clear hit hbw hit2 hbw2 hWd hd hR
      go_wp2
      go_roundg g'
      case measure => omega
      case rel => exact ⟨pos + 1, by omega, HI.out.1, HI.out.2⟩
    · have hnx : ∀ ty, (Instr.next (.pointer (some ⟨w.heap.size, 0, none⟩)) true ty).run Tryz.prog wr = _ := fun ty => Lib.run_next_end_at wr w.heap.size s pos ty hit (by rw [HZ.out]; exact hps)
      have HB : Hid (Below w.heap.size w wr) := hbw
      clear hit hbw
      go_wp2
      go_ret
      exact ⟨rfl, HB.out⟩
end Go.Proofs.YtfnkbbpjfjendaiGreatDoor

namespace Go.Proofs.YtfnkbbpjfjendaiGreatDoor
open Go.ChangeShapes Go.WideShapes Go.ChangeAt Go.RowKit
set_option maxRecDepth 100000

theorem noHigh_any (s : ByteArray) (k : Nat) (hk : k ≤ 9) (hs : s.data.toList = letterL.drop k) (b : UInt8) (hb : 128 ≤ b.toNat) (W : World) :
    Calls Tryz.prog 65 #[.string s, .int .u8 (b.toNat : Int)] W fun e w' => e = .returned (.int .i64 (-1)) ∧ w' = W := by
  have := indexByte_any s (b.toNat : Int) W
  have e : Lib.indexByte s.data.toList (b.toNat : Int).toNat.toUInt8 = -1 := by
    rw [hs, ← no_high k hk b hb, Int.toNat_natCast]
    congr 1
    simp
  rw [e] at this
  exact this.mono fun _ _ h => (And.intro h.1 h.2.symm)

set_option maxRecDepth 100000 in
set_option maxHeartbeats 4000000 in
theorem indexRune_two (r : Int) (h0 : 128 ≤ r) (h1 : r < 2048) (x0 x1 : UInt8) (hE : Utf8.encode r = { data := #[x0, x1] }) (hy : 128 ≤ (x1.toNat : Int)) (w : World) :
    Calls Tryz.prog 100 #[.string { data := #[65, 66, 67, 48, 49, 43, 42, 45, 126] }, .int .i32 r] w fun e w' => e = .returned (.int .i64 (-1)) ∧ Below w.heap.size w w' := by
  have hcv : ∀ W, (convert 21 9 (.int .i32 r)).run Tryz.prog W = .ok (.string { data := #[x0, x1] }) W := fun W => by
    rw [run_convert_int_string W 21 9 .i32 r (by kernel_rfl) (by kernel_rfl), hE]
  have HV : Hid (∀ W, Calls Tryz.prog 115 #[.int .i32 r] W fun e w' => e = .returned (.bool true) ∧ W = w') := fun W => validRune_ok r (by omega) (by omega) W
  have hneq : (((((ByteArray.mk #[65, 66, 67, 48, 49, 43, 42, 45, 126])[1]'(by decide)).toNat : Nat) : Int) != ((((ByteArray.mk #[x0, x1])[1]'(by simp [ByteArray.size])).toNat : Nat) : Int)) = true := by
    show ((66 : Int) != (x1.toNat : Int)) = true
    simp; omega
  have HY : Hid (128 ≤ x1.toNat) := by unfold Hid; omega
  clear hE hy
  go_enter Tryz.func100, Tryz.ntmps100
  go_wp2_with (go_at_call 115; refine (HV.out _).mono ?_; rintro e w' ⟨rfl, rfl⟩)
  go_step3
  go_wp2
  refine wp_loop_rounds 1 ?_
  rw [rounds_succ]
  go_wp2_with fail
  go_step3
  go_wp2_with fail
  go_quiet (fail)
  go_wp2_with fail
  go_quiet (first | (go_at_call 65; exact (noHigh_any _ 2 (by omega) rfl x1 HY.out _).mono fun _ _ h => ⟨h.1, _, h.2⟩))
  go_wp2
  simp only [Exit.noGoto_ret, Exit.inBlock, Exit.then]
  go_ret
  exact ⟨rfl, below_drewNs _ _⟩

set_option maxRecDepth 100000 in
set_option maxHeartbeats 4000000 in
theorem indexRune_three (r : Int) (h0 : 2048 ≤ r) (h1 : r < 65536) (hne : ¬ r = 65533) (hsur : r < 55296 ∨ 57343 < r) (x0 x1 x2 : UInt8) (hE : Utf8.encode r = { data := #[x0, x1, x2] }) (hy : 128 ≤ (x2.toNat : Int)) (w : World) :
    Calls Tryz.prog 100 #[.string { data := #[65, 66, 67, 48, 49, 43, 42, 45, 126] }, .int .i32 r] w fun e w' => e = .returned (.int .i64 (-1)) ∧ Below w.heap.size w w' := by
  have hcv : ∀ W, (convert 21 9 (.int .i32 r)).run Tryz.prog W = .ok (.string { data := #[x0, x1, x2] }) W := fun W => by
    rw [run_convert_int_string W 21 9 .i32 r (by kernel_rfl) (by kernel_rfl), hE]
  have HV : Hid (∀ W, Calls Tryz.prog 115 #[.int .i32 r] W fun e w' => e = .returned (.bool true) ∧ W = w') := fun W => validRune_ok r (by omega) (by omega) W
  have hne1 : (r == 65533) = false := by simpa using hne
  clear hne
  have hneq : (((((ByteArray.mk #[65, 66, 67, 48, 49, 43, 42, 45, 126])[2]'(by decide)).toNat : Nat) : Int) != ((((ByteArray.mk #[x0, x1, x2])[2]'(by simp [ByteArray.size])).toNat : Nat) : Int)) = true := by
    show ((67 : Int) != (x2.toNat : Int)) = true
    simp; omega
  have HY : Hid (128 ≤ x2.toNat) := by unfold Hid; omega
  clear hE hy
  go_enter Tryz.func100, Tryz.ntmps100
  go_wp2_with (go_at_call 115; refine (HV.out _).mono ?_; rintro e w' ⟨rfl, rfl⟩)
  go_step3
  go_wp2
  refine wp_loop_rounds 1 ?_
  rw [rounds_succ]
  go_wp2_with fail
  go_step3
  go_wp2_with fail
  go_quiet (fail)
  go_wp2_with fail
  go_quiet (first | (go_at_call 65; exact (noHigh_any _ 3 (by omega) rfl x2 HY.out _).mono fun _ _ h => ⟨h.1, _, h.2⟩))
  go_wp2
  simp only [Exit.noGoto_ret, Exit.inBlock, Exit.then]
  go_ret
  exact ⟨rfl, below_drewNs _ _⟩

set_option maxRecDepth 100000 in
set_option maxHeartbeats 4000000 in
theorem indexRune_four (r : Int) (h0 : 65536 ≤ r) (h1 : r ≤ 1114111) (x0 x1 x2 x3 : UInt8) (hE : Utf8.encode r = { data := #[x0, x1, x2, x3] }) (hy : 128 ≤ (x3.toNat : Int)) (w : World) :
    Calls Tryz.prog 100 #[.string { data := #[65, 66, 67, 48, 49, 43, 42, 45, 126] }, .int .i32 r] w fun e w' => e = .returned (.int .i64 (-1)) ∧ Below w.heap.size w w' := by
  have hcv : ∀ W, (convert 21 9 (.int .i32 r)).run Tryz.prog W = .ok (.string { data := #[x0, x1, x2, x3] }) W := fun W => by
    rw [run_convert_int_string W 21 9 .i32 r (by kernel_rfl) (by kernel_rfl), hE]
  have HV : Hid (∀ W, Calls Tryz.prog 115 #[.int .i32 r] W fun e w' => e = .returned (.bool true) ∧ W = w') := fun W => validRune_ok r (by omega) (by omega) W
  have hneq : (((((ByteArray.mk #[65, 66, 67, 48, 49, 43, 42, 45, 126])[3]'(by decide)).toNat : Nat) : Int) != ((((ByteArray.mk #[x0, x1, x2, x3])[3]'(by simp [ByteArray.size])).toNat : Nat) : Int)) = true := by
    show ((48 : Int) != (x3.toNat : Int)) = true
    simp; omega
  have HY : Hid (128 ≤ x3.toNat) := by unfold Hid; omega
  clear hE hy
  go_enter Tryz.func100, Tryz.ntmps100
  go_wp2_with (go_at_call 115; refine (HV.out _).mono ?_; rintro e w' ⟨rfl, rfl⟩)
  go_step3
  go_wp2
  refine wp_loop_rounds 1 ?_
  rw [rounds_succ]
  go_wp2_with fail
  go_step3
  go_wp2_with fail
  go_quiet (fail)
  go_wp2_with fail
  go_quiet (first | (go_at_call 65; exact (noHigh_any _ 4 (by omega) rfl x3 HY.out _).mono fun _ _ h => ⟨h.1, _, h.2⟩))
  go_wp2
  simp only [Exit.noGoto_ret, Exit.inBlock, Exit.then]
  go_ret
  exact ⟨rfl, below_drewNs _ _⟩

end Go.Proofs.YtfnkbbpjfjendaiGreatDoor

namespace Go.Proofs.YtfnkbbpjfjendaiGreatDoor
open Go.ChangeShapes Go.WideShapes Go.ChangeAt Go.RowKit
set_option maxRecDepth 100000

def runeI (r : Nat) : Int := if r < 128 then signOf (UInt8.ofNat r) else -1
theorem runeI_iff (r : Nat) : (decide (0 ≤ runeI r)) = runeB r := by
  unfold runeI runeB
  by_cases h : r < 128
  · rw [if_pos h]
    rcases byte_all (UInt8.ofNat r) with h1 | h1
    · rw [h1]; simp
    · have := signB_iff.1 h1.1
      have e : (signOf (UInt8.ofNat r) != -1) = true := by simp; omega
      rw [e]; simp [h]; omega
  · rw [if_neg h]; simp [h]
theorem tail_high (n : Nat) : 128 ≤ ((UInt8.ofNat (128 + n % 64)).toNat : Int) := by
  have : (UInt8.ofNat (128 + n % 64)).toNat = 128 + n % 64 := by simp; omega
  rw [this]; omega

theorem indexRune_any (r : Nat) (hr : r ≤ 1114111) (w : World) :
    Calls Tryz.prog 100 #[.string { data := #[65, 66, 67, 48, 49, 43, 42, 45, 126] }, .int .i32 r] w fun e w' => e = .returned (.int .i64 (runeI r)) ∧ Below w.heap.size w w' := by
  unfold runeI
  by_cases h : r < 128
  · rw [if_pos h]; exact indexRune_low r h w
  rw [if_neg h]
  by_cases he : r = 65533
  · subst he; exact indexRune_err w
  by_cases hs : 55296 ≤ r ∧ r ≤ 57343
  · exact indexRune_no (r : Int) (by omega) (by omega) w
  have hv : Utf8.valid (r : Int) = true := by
    unfold Utf8.valid
    rw [Bool.or_eq_true, Bool.and_eq_true, Bool.and_eq_true]
    simp only [decide_eq_true_eq]
    omega
  have hE : Utf8.encode (r : Int) = if r < 128 then ⟨#[UInt8.ofNat r]⟩ else if r < 2048 then ⟨#[UInt8.ofNat (192 + r / 64), UInt8.ofNat (128 + r % 64)]⟩ else if r < 65536 then ⟨#[UInt8.ofNat (224 + r / 4096), UInt8.ofNat (128 + r / 64 % 64), UInt8.ofNat (128 + r % 64)]⟩ else ⟨#[UInt8.ofNat (240 + r / 262144), UInt8.ofNat (128 + r / 4096 % 64), UInt8.ofNat (128 + r / 64 % 64), UInt8.ofNat (128 + r % 64)]⟩ := by
    unfold Utf8.encode
    rw [if_pos hv]
    rfl
  rw [if_neg h] at hE
  by_cases h2 : r < 2048
  · rw [if_pos h2] at hE
    exact indexRune_two (r : Int) (by omega) (by omega) _ _ hE (tail_high r) w
  rw [if_neg h2] at hE
  by_cases h3 : r < 65536
  · rw [if_pos h3] at hE
    exact indexRune_three (r : Int) (by omega) (by omega) (by omega) (by omega) _ _ _ hE (tail_high r) w
  rw [if_neg h3] at hE
  exact indexRune_four (r : Int) (by omega) (by omega) _ _ _ _ hE (tail_high r) w

theorem containsRune_any (r : Nat) (hr : r ≤ 1114111) (w : World) :
    Calls Tryz.prog 83 #[.string { data := #[65, 66, 67, 48, 49, 43, 42, 45, 126] }, .int .i32 r] w fun e w' => e = .returned (.bool (runeB r)) ∧ Below w.heap.size w w' := by
  have HC : Hid (∀ W, Calls Tryz.prog 100 #[.string { data := #[65, 66, 67, 48, 49, 43, 42, 45, 126] }, .int .i32 r] W fun e w' => e = .returned (.int .i64 (runeI r)) ∧ Below W.heap.size W w') := fun W => indexRune_any r hr W
  have HI : Hid (decide (0 ≤ runeI r) = runeB r) := runeI_iff r
  clear hr
  go_enter Tryz.func83, Tryz.ntmps83
  go_wp2_with (go_at_call 100; refine (HC.out _).mono ?_; rintro e w' ⟨rfl, hb⟩)
  go_ret
  exact ⟨back_b HI.out, hb⟩

theorem noLetter_any (r : Nat) (hr : r ≤ 1114111) (w : World) :
    Calls Tryz.prog 82 #[.int .i32 r] w fun e w' => e = .returned (.bool (!runeB r)) ∧ Below w.heap.size w w' := by
  have HC : Hid (∀ W, Calls Tryz.prog 83 #[.string { data := #[65, 66, 67, 48, 49, 43, 42, 45, 126] }, .int .i32 r] W fun e w' => e = .returned (.bool (runeB r)) ∧ Below W.heap.size W w') := fun W => containsRune_any r hr W
  clear hr
  go_enter Tryz.func82, Tryz.ntmps82
  go_wp2_with (go_at_call 83; refine (HC.out _).mono ?_; rintro e w' ⟨rfl, hb⟩)
  go_ret
  exact ⟨rfl, hb⟩

/-! ### the first byte that is no letter -/
theorem decode_low (s : ByteArray) (pos : Nat) (h : pos < s.size) (ha : (s[pos]'h).toNat < 128) : Utf8.decode s pos = ((s[pos]'h).toNat, 1) := by
  simp only [Utf8.decode, get_at s pos h, ha, if_true]
/-- where the first byte is that is no letter, from a place on. -/
def badFrom : List UInt8 → Nat → Int
  | [], _ => -1
  | b :: l, k => if (signOf b != -1) = true then badFrom l (k + 1) else k
theorem badFrom_iff (l : List UInt8) (k : Nat) : decide (0 ≤ badFrom l k) = !lettersB l := by
  induction l generalizing k with
  | nil => rfl
  | cons b l ih =>
    unfold badFrom lettersB
    rw [List.all_cons]
    by_cases h : (signOf b != -1) = true
    · rw [if_pos h, h]; exact ih (k + 1)
    · have h' : (signOf b != -1) = false := by simpa using h
      rw [if_neg h, h']; simp
theorem badFrom_drop (s : ByteArray) {k : Nat} (hk : k < s.size) : badFrom (s.data.toList.drop k) k = if (signOf (s[k]'hk) != -1) = true then badFrom (s.data.toList.drop (k + 1)) (k + 1) else k := by
  have hk' : k < s.data.toList.length := by rw [Array.length_toList]; exact hk
  rw [List.drop_eq_getElem_cons hk']
  rfl
theorem letter_low (b : UInt8) (h : (signOf b != -1) = true) : b.toNat < 128 := by
  have h' : signOf b ≠ -1 := by simpa using h
  have := byte_sign h'
  rw [← this.2]
  rcases nine this.1 with e | e | e | e | e | e | e | e | e <;> rw [e] <;> decide

theorem rune_le (s : ByteArray) (pos : Nat) : (Utf8.decode s pos).1 ≤ 1114111 := by
  have hb : ∀ k, (s.get! (pos + k)).toNat < 256 := fun k => (s.get! (pos + k)).toNat_lt
  have h0 := hb 0; have h1 := hb 1; have h2 := hb 2; have h3 := hb 3
  simp only [Utf8.decode]
  repeat' split
  all_goals simp_all [Utf8.runeError, Utf8.valid]
  all_goals omega

set_option maxRecDepth 100000 in
set_option maxHeartbeats 2000000 in
theorem indexFunc_text (s : ByteArray) (w : World) :
    Calls Tryz.prog 116 #[.string s, .func (.func 82) #[] #[], .bool true] w fun e w' => e = .returned (.int .i64 (badFrom s.data.toList 0)) ∧ Below w.heap.size w w' := by
  obtain ⟨A, hA⟩ : ∃ A, A = badFrom s.data.toList 0 := ⟨_, rfl⟩
  rw [← hA]
  have HA : Hid (A = badFrom s.data.toList 0) := hA
  clear hA
  go_enter Tryz.func116, Tryz.ntmps116
  go_wp2
  go_loopg [] s.size (fun gf wx => ∃ pos : Nat, pos + gf = s.size ∧ wx.heap[w.heap.size]? = some (.stringIter s pos) ∧ Below w.heap.size w wx ∧ badFrom (s.data.toList.drop pos) pos = A)
  case atStart => exact ⟨0, by omega, World.iter_heap w s 0, (Below.refl _ w).alloc (Nat.le_refl _) _, HA.out.symm⟩
  case round =>
    obtain ⟨pos, hpos, hit, hbw, hbad⟩ := hrel
    by_cases hps : pos < s.size
    · obtain ⟨g', rfl⟩ : ∃ g', gk = g' + 1 := ⟨gk - 1, by omega⟩
      have hnx : ∀ ty, (Instr.next (.pointer (some ⟨w.heap.size, 0, none⟩)) true ty).run Tryz.prog wr = _ := fun ty => Lib.run_next_any_at wr w.heap.size s pos ty hit hps
      have hbd := badFrom_drop s hps
      have hle := rune_le s pos
      by_cases hL : (signOf (s[pos]'hps) != -1) = true
      · rw [if_pos hL, hbad] at hbd
        have hlow := letter_low _ hL
        have hd := decode_low s pos hps hlow
        have hrb := runeB_low _ hlow
        rw [hL] at hrb
        obtain ⟨R, hR⟩ : ∃ R, (s[pos]'hps).toNat = R := ⟨_, rfl⟩
        rw [hR] at hrb hd
        rw [hd] at hnx hle
        have hit2 := Lib.iterAt_heap wr w.heap.size s pos (pos + 1) hit
        have hbw2 := Lib.below_iterAt hbw (k := w.heap.size) (Nat.le_refl _) s (pos + 1)
        simp only at hnx
        obtain ⟨W, hWd⟩ : ∃ W, wr.iterAt w.heap.size s (pos + 1) = W := ⟨_, rfl⟩
        rw [hWd] at hnx hit2 hbw2
        have HI : Hid (W.heap[w.heap.size]? = some (.stringIter s (pos + 1)) ∧ Below w.heap.size w W) := ⟨hit2, hbw2⟩
        have HL : Hid (w.heap.size < W.heap.size) := (Array.getElem?_eq_some_iff.1 hit2).1
        have HB : Hid (A = badFrom (s.data.toList.drop (pos + 1)) (pos + 1)) := hbd
        have HN : Hid (Calls Tryz.prog 82 #[.int .i32 R] W fun e w' => e = .returned (.bool false) ∧ Below W.heap.size W w') := by
          have := noLetter_any R hle W
          rw [hrb] at this; exact this
        clear hit hbw hit2 hbw2 hWd hd hR hbad hbd hlow hL hrb hle
        go_wp2_with (go_at_call 82; refine HN.out.mono ?_; rintro e W' ⟨rfl, hbc⟩)
        go_roundg g'
        case measure => omega
        case rel => exact ⟨pos + 1, by omega, (hbc.block _ HL.out).trans HI.out.1, HI.out.2.trans (hbc.mono HI.out.2.size), HB.out.symm⟩
      · rw [if_neg hL, hbad] at hbd
        have hL' : (signOf (s[pos]'hps) != -1) = false := by simpa using hL
        have hrb : runeB (Utf8.decode s pos).1 = false := by
          by_cases hlow : (s[pos]'hps).toNat < 128
          · rw [decode_low s pos hps hlow, runeB_low _ hlow]; exact hL'
          · exact runeB_high (decode_high s pos hps (by omega)).1
        obtain ⟨R, hR⟩ : ∃ R, (Utf8.decode s pos).1 = R := ⟨_, rfl⟩
        obtain ⟨K, hK⟩ : ∃ K, (Utf8.decode s pos).2 = K := ⟨_, rfl⟩
        rw [hR] at hrb hnx hle
        rw [hK] at hnx
        have hbw2 := Lib.below_iterAt hbw (k := w.heap.size) (Nat.le_refl _) s (pos + K)
        obtain ⟨W, hWd⟩ : ∃ W, wr.iterAt w.heap.size s (pos + K) = W := ⟨_, rfl⟩
        rw [hWd] at hnx hbw2
        have HI : Hid (Below w.heap.size w W) := hbw2
        have HB : Hid (A = pos) := hbd
        have HN : Hid (Calls Tryz.prog 82 #[.int .i32 R] W fun e w' => e = .returned (.bool true) ∧ Below W.heap.size W w') := by
          have := noLetter_any R hle W
          rw [hrb] at this; exact this
        clear hit hbw hbw2 hWd hR hK hbad hbd hL hL' hrb hle
        go_wp2_with (go_at_call 82; refine HN.out.mono ?_; rintro e W' ⟨rfl, hbc⟩)
        go_ret
        exact ⟨back_i HB.out.symm, HI.out.trans (hbc.mono HI.out.size)⟩
    · have hnx : ∀ ty, (Instr.next (.pointer (some ⟨w.heap.size, 0, none⟩)) true ty).run Tryz.prog wr = _ := fun ty => Lib.run_next_end_at wr w.heap.size s pos ty hit hps
      have HB : Hid (Below w.heap.size w wr) := hbw
      have HE : Hid (-1 = A) := by
        rw [List.drop_eq_nil_of_le (by have : s.data.toList.length = s.size := Array.length_toList
                                       omega)] at hbad
        exact hbad
      clear hit hbw hbad
      go_wp2
      go_ret
      exact ⟨back_i HE.out, HB.out⟩

theorem IndexFunc_text (s : ByteArray) (w : World) :
    Calls Tryz.prog 101 #[.string s, .func (.func 82) #[] #[]] w fun e w' => e = .returned (.int .i64 (badFrom s.data.toList 0)) ∧ Below w.heap.size w w' := by
  have HC := indexFunc_text s w
  have HC' : Hid (Calls Tryz.prog 116 #[.string s, .func (.func 82) #[] #[], .bool true] w fun e w' => e = .returned (.int .i64 (badFrom s.data.toList 0)) ∧ Below w.heap.size w w') := HC
  clear HC
  go_enter Tryz.func101, Tryz.ntmps101
  go_wp2_with (go_at_call 116; refine HC'.out.mono ?_; rintro e w' ⟨rfl, hb⟩)
  go_ret
  exact ⟨rfl, hb⟩

theorem containsFunc_text (s : ByteArray) (w : World) :
    Calls Tryz.prog 84 #[.string s, .func (.func 82) #[] #[]] w fun e w' => e = .returned (.bool (!lettersB s.data.toList)) ∧ Below w.heap.size w w' := by
  have HC : Hid (Calls Tryz.prog 101 #[.string s, .func (.func 82) #[] #[]] w fun e w' => e = .returned (.int .i64 (badFrom s.data.toList 0)) ∧ Below w.heap.size w w') := IndexFunc_text s w
  have HI : Hid (decide (0 ≤ badFrom s.data.toList 0) = !lettersB s.data.toList) := badFrom_iff _ 0
  obtain ⟨I, hI⟩ : ∃ I, I = badFrom s.data.toList 0 := ⟨_, rfl⟩
  rw [← hI] at HC HI
  clear hI
  go_enter Tryz.func84, Tryz.ntmps84
  go_wp2_with (go_at_call 101; refine HC.out.mono ?_; rintro e w' ⟨rfl, hb⟩)
  go_ret
  exact ⟨back_b HI.out, hb⟩
end Go.Proofs.YtfnkbbpjfjendaiGreatDoor
