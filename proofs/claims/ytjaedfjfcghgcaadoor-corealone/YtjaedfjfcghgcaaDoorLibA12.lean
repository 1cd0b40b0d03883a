/-
  Proved: what the reference's in and In return, of a right term and a right world; what was in memory is as it was (contracts that the statements lean on).
  Proved: what the reference's functions of chapter 1 (Size, Do) return, and that they leave memory as it was.
  Proved: what the reference's Value returns, of a right term and a right world; what was in memory is as it was (contracts that the statements lean on).
-/
import Derived.Test.YtjaedfjfcghgcaaDoorLibA10
import Derived.Test.YtjaedfjfcghgcaaDoorLibA8
import Derived.WalkKit
import Derived.ProofKit
import Derived.OpenShut
namespace Go.Proofs.YtjaedfjfcghgcaaDoor
open Go.ChangeShapes Go.WideShapes Go.ChangeAt Go.RowKit
set_option maxRecDepth 100000

/-- the row q lies in w at a place. -/
def Lies (w : World) (B off : Nat) (q : List Int) : Prop := B < w.heap.size ∧ ∀ k, k < q.length → w.cell? ⟨B, off + k, none⟩ = some (.int .i64 (q.getD k 0))
theorem Lies.below {w w' : World} {B off : Nat} {q : List Int} (h : Lies w B off q) (hb : Below w.heap.size w w') : Lies w' B off q :=
  ⟨Nat.lt_of_lt_of_le h.1 hb.size, fun k hk => by rw [hb.cell h.1]; exact h.2 k hk⟩
theorem Lies.front {w : World} {B off : Nat} {q l : List Int} (h : Lies w B off (q ++ l)) : Lies w B off q :=
  ⟨h.1, fun k hk => by
    rw [h.2 k (by rw [List.length_append]; omega)]
    simp [List.getElem?_append_left hk]⟩
theorem Lies.last {w : World} {B off : Nat} {q : List Int} {s : Int} (h : Lies w B off (q ++ [s])) : w.cell? ⟨B, off + q.length, none⟩ = some (.int .i64 s) := by
  rw [h.2 q.length (by simp)]; simp
theorem name_le {w : Wd} (h : w.ok = true) (s : Int) : 0 ≤ w.name s ∧ w.name s < 64 := by
  obtain ⟨_, _, h1, h2⟩ := okB_lt (ok_name h s); exact ⟨h1, h2⟩
theorem back_bs {a b : Bool} {v : Value} (h : a = b) : Ending.returned (.tuple #[.bool a, v]) = .returned (.tuple #[.bool b, v]) := by rw [h]

set_option maxRecDepth 100000 in
set_option maxHeartbeats 4000000 in
theorem in_leaf (s : Int) (h0 : 0 ≤ s) (h4 : s ≤ 4) (m B off cap i : Nat) (u a b c : Int) (w : World) (hok : (Wd.mk u a b c).ok = true) (hi : (i : Int) < u) (hm : m ≤ 12) (hcap : m + 1 ≤ cap) (hB : B < w.heap.size) (hc : w.cell? ⟨B, off + m, none⟩ = some (.int .i64 s)) :
    Calls Tryd.prog 99 #[.slice (some ⟨B, off, none⟩) (m + 1) cap, .agg #[.int .i64 u, .int .i64 a, .int .i64 b, .int .i64 c], .int .i64 i] w fun e w' => e = .returned (.tuple #[.bool (hasB ((Wd.mk u a b c).val [s]) i), .slice (some ⟨B, off, none⟩) m cap]) ∧ Below w.heap.size w w' := by
  have HL : Hid (hasB ((Wd.mk u a b c).val [s]) i = if s < 3 then hasB ((Wd.mk u a b c).name s) i else s == 4) := has_leaf hok s h0 h4 i hi
  have hu := ok_u hok
  simp only at hu
  have hi6 : i ≤ 6 := by omega
  have HH : Hid (∀ s W, Calls Tryd.prog 70 #[.int .i64 ((Wd.mk u a b c).name s), .int .i64 i] W fun e w' => e = .returned (.bool (hasB ((Wd.mk u a b c).name s) i)) ∧ W = w') := fun s W => refHas_any _ i (name_le hok s).1 (by have := (name_le hok s).2; omega) (by omega) W
  have d0 : (w.alloc (.cells #[.int .i64 u, .int .i64 a, .int .i64 b, .int .i64 c] 37)).cell? ⟨B, off + m, none⟩ = some (.int .i64 s) := by
    rw [World.cell?_alloc_lt _ _ ⟨B, off + m, none⟩ hB]; exact hc
  have hle : (m : Int) ≤ (cap : Int) := by omega
  obtain ⟨V, hV⟩ : ∃ V, V = hasB ((Wd.mk u a b c).val [s]) i := ⟨_, rfl⟩
  rw [← hV] at HL ⊢
  clear hV hc hB hok hu hi
  have hd : s = 0 ∨ s = 1 ∨ s = 2 ∨ s = 3 ∨ s = 4 := by omega
  clear h0 h4
  rcases hd with rfl | rfl | rfl | rfl | rfl
  · have HA : Hid (∀ W, Calls Tryd.prog 70 #[.int .i64 a, .int .i64 i] W fun e w' => e = .returned (.bool V) ∧ W = w') := fun W => by rw [HL.out]; exact HH.out 0 W
    go_enter Tryd.func99, Tryd.ntmps99
    go_wp2_with (go_at_call 70; refine (HA.out _).mono ?_; rintro e w' ⟨rfl, rfl⟩)
    go_ret2
    exact ⟨rfl, below_alloc1 _ _⟩
  · have HA : Hid (∀ W, Calls Tryd.prog 70 #[.int .i64 b, .int .i64 i] W fun e w' => e = .returned (.bool V) ∧ W = w') := fun W => by rw [HL.out]; exact HH.out 1 W
    go_enter Tryd.func99, Tryd.ntmps99
    go_wp2_with (go_at_call 70; refine (HA.out _).mono ?_; rintro e w' ⟨rfl, rfl⟩)
    go_ret2
    exact ⟨rfl, below_alloc1 _ _⟩
  · have HA : Hid (∀ W, Calls Tryd.prog 70 #[.int .i64 c, .int .i64 i] W fun e w' => e = .returned (.bool V) ∧ W = w') := fun W => by rw [HL.out]; exact HH.out 2 W
    go_enter Tryd.func99, Tryd.ntmps99
    go_wp2_with (go_at_call 70; refine (HA.out _).mono ?_; rintro e w' ⟨rfl, rfl⟩)
    go_ret2
    exact ⟨rfl, below_alloc1 _ _⟩
  · go_enter Tryd.func99, Tryd.ntmps99
    go_wp2_with fail
    go_ret2
    exact ⟨back_bs HL.out.symm, below_alloc1 _ _⟩
  · go_enter Tryd.func99, Tryd.ntmps99
    go_wp2_with fail
    go_ret2
    exact ⟨back_bs HL.out.symm, below_alloc1 _ _⟩

set_option maxRecDepth 100000 in
set_option maxHeartbeats 4000000 in
/-- behind one call of itself. -/
theorem in_opp (m p B off cap i : Nat) (u a b c : Int) (x : Bool) (w : World) (hm : m ≤ 12) (hcap : m + 1 ≤ cap) (hB : B < w.heap.size) (hc : w.cell? ⟨B, off + m, none⟩ = some (.int .i64 8))
    (ih : ∀ W, Below w.heap.size w W → Calls Tryd.prog 99 #[.slice (some ⟨B, off, none⟩) m cap, .agg #[.int .i64 u, .int .i64 a, .int .i64 b, .int .i64 c], .int .i64 i] W fun e w' => e = .returned (.tuple #[.bool x, .slice (some ⟨B, off, none⟩) p cap]) ∧ Below W.heap.size W w') :
    Calls Tryd.prog 99 #[.slice (some ⟨B, off, none⟩) (m + 1) cap, .agg #[.int .i64 u, .int .i64 a, .int .i64 b, .int .i64 c], .int .i64 i] w fun e w' => e = .returned (.tuple #[.bool (!x), .slice (some ⟨B, off, none⟩) p cap]) ∧ Below w.heap.size w w' := by
  have HI : Hid (Calls Tryd.prog 99 #[.slice (some ⟨B, off, none⟩) m cap, .agg #[.int .i64 u, .int .i64 a, .int .i64 b, .int .i64 c], .int .i64 i] (w.alloc (.cells #[.int .i64 u, .int .i64 a, .int .i64 b, .int .i64 c] 37)) fun e w' => e = .returned (.tuple #[.bool x, .slice (some ⟨B, off, none⟩) p cap]) ∧ Below (w.alloc (.cells #[.int .i64 u, .int .i64 a, .int .i64 b, .int .i64 c] 37)).heap.size (w.alloc (.cells #[.int .i64 u, .int .i64 a, .int .i64 b, .int .i64 c] 37)) w') := ih _ (below_alloc1 _ _)
  have HA : Hid (Below w.heap.size w (w.alloc (.cells #[.int .i64 u, .int .i64 a, .int .i64 b, .int .i64 c] 37))) := below_alloc1 _ _
  have d0 : (w.alloc (.cells #[.int .i64 u, .int .i64 a, .int .i64 b, .int .i64 c] 37)).cell? ⟨B, off + m, none⟩ = some (.int .i64 8) := by
    rw [World.cell?_alloc_lt _ _ ⟨B, off + m, none⟩ hB]; exact hc
  have hle : (m : Int) ≤ (cap : Int) := by omega
  clear hc hB ih
  go_enter Tryd.func99, Tryd.ntmps99
  go_wp2_with (go_at_call 99; refine HI.out.mono ?_; rintro e w2 ⟨rfl, hb⟩)
  go_ret2
  exact ⟨rfl, HA.out.trans (hb.mono HA.out.size)⟩

set_option maxRecDepth 100000 in
set_option maxHeartbeats 4000000 in
/-- behind two calls of itself. -/
theorem in_two (s : Int) (h5 : 5 ≤ s) (h7 : s ≤ 7) (m p q B off cap i : Nat) (u a b c : Int) (x y : Bool) (w : World) (hm : m ≤ 12) (hcap : m + 1 ≤ cap) (hB : B < w.heap.size) (hc : w.cell? ⟨B, off + m, none⟩ = some (.int .i64 s))
    (ihy : ∀ W, Below w.heap.size w W → Calls Tryd.prog 99 #[.slice (some ⟨B, off, none⟩) m cap, .agg #[.int .i64 u, .int .i64 a, .int .i64 b, .int .i64 c], .int .i64 i] W fun e w' => e = .returned (.tuple #[.bool y, .slice (some ⟨B, off, none⟩) q cap]) ∧ Below W.heap.size W w')
    (ihx : ∀ W, Below w.heap.size w W → Calls Tryd.prog 99 #[.slice (some ⟨B, off, none⟩) q cap, .agg #[.int .i64 u, .int .i64 a, .int .i64 b, .int .i64 c], .int .i64 i] W fun e w' => e = .returned (.tuple #[.bool x, .slice (some ⟨B, off, none⟩) p cap]) ∧ Below W.heap.size W w') :
    Calls Tryd.prog 99 #[.slice (some ⟨B, off, none⟩) (m + 1) cap, .agg #[.int .i64 u, .int .i64 a, .int .i64 b, .int .i64 c], .int .i64 i] w fun e w' => e = .returned (.tuple #[.bool (inB s x y), .slice (some ⟨B, off, none⟩) p cap]) ∧ Below w.heap.size w w' := by
  obtain ⟨w1, hw1⟩ : ∃ w1, w1 = w.alloc (.cells #[.int .i64 u, .int .i64 a, .int .i64 b, .int .i64 c] 37) := ⟨_, rfl⟩
  have HA : Hid (Below w.heap.size w w1) := by unfold Hid; rw [hw1]; exact below_alloc1 _ _
  have HI : Hid (Calls Tryd.prog 99 #[.slice (some ⟨B, off, none⟩) m cap, .agg #[.int .i64 u, .int .i64 a, .int .i64 b, .int .i64 c], .int .i64 i] w1 fun e w' => e = .returned (.tuple #[.bool y, .slice (some ⟨B, off, none⟩) q cap]) ∧ Below w1.heap.size w1 w') := ihy _ HA.out
  have HX : Hid (∀ W, Below w.heap.size w W → Calls Tryd.prog 99 #[.slice (some ⟨B, off, none⟩) q cap, .agg #[.int .i64 u, .int .i64 a, .int .i64 b, .int .i64 c], .int .i64 i] W fun e w' => e = .returned (.tuple #[.bool x, .slice (some ⟨B, off, none⟩) p cap]) ∧ Below W.heap.size W w') := ihx
  have HC : Hid (∀ W, Below w1.heap.size w1 W → W.cell? ⟨w.heap.size, 0, none⟩ = some (.int .i64 u) ∧ W.cell? ⟨w.heap.size, 1, none⟩ = some (.int .i64 a) ∧ W.cell? ⟨w.heap.size, 2, none⟩ = some (.int .i64 b) ∧ W.cell? ⟨w.heap.size, 3, none⟩ = some (.int .i64 c)) := fun W hc => by
    have hlt : w.heap.size < w1.heap.size := by rw [hw1]; simp
    rw [hc.cell (p := ⟨w.heap.size, 0, none⟩) hlt, hc.cell (p := ⟨w.heap.size, 1, none⟩) hlt, hc.cell (p := ⟨w.heap.size, 2, none⟩) hlt, hc.cell (p := ⟨w.heap.size, 3, none⟩) hlt, hw1]
    simp
  have d0 : w1.cell? ⟨B, off + m, none⟩ = some (.int .i64 s) := by
    rw [hw1, World.cell?_alloc_lt _ _ ⟨B, off + m, none⟩ hB]; exact hc
  have hle : (m : Int) ≤ (cap : Int) := by omega
  clear hc hB ihx ihy
  have hd : s = 5 ∨ s = 6 ∨ s = 7 := by omega
  clear h5 h7
  rcases hd with rfl | rfl | rfl
  all_goals
    rw [hw1] at d0
    go_enter Tryd.func99, Tryd.ntmps99
    go_wp2_with fail
    rw [← hw1]
    rw [← hw1] at d0
    clear hw1
    go_at_call 99
    refine HI.out.mono ?_
    rintro e w2 ⟨rfl, hb⟩
    have HB2 : Hid (Below w.heap.size w w2) := HA.out.trans (hb.mono HA.out.size)
    obtain ⟨x0, x1, x2, x3⟩ := HC.out _ hb
    clear hb
    go_wp2_with fail
    go_at_call 99
    refine (HX.out _ HB2.out).mono ?_
    rintro e w3 ⟨rfl, hb3⟩
    have HB3 : Hid (Below w.heap.size w w3) := HB2.out.trans (hb3.mono HB2.out.size)
    clear hb3 x0 x1 x2 x3
    cases x <;> cases y
    all_goals
      go_wp2
      go_ret2
      exact ⟨rfl, HB3.out⟩

theorem in_any (i : Nat) (u a b c : Int) (hok : (Wd.mk u a b c).ok = true) (hi : (i : Int) < u) (B off cap : Nat) (n : Nat) :
    ∀ (q : List Int), isTm n q → ∀ (pre : List Int) (w : World), (pre ++ q).length ≤ 12 → (pre ++ q).length ≤ cap → Lies w B off (pre ++ q) →
    Calls Tryd.prog 99 #[.slice (some ⟨B, off, none⟩) (pre ++ q).length cap, .agg #[.int .i64 u, .int .i64 a, .int .i64 b, .int .i64 c], .int .i64 i] w fun e w' => e = .returned (.tuple #[.bool (hasB ((Wd.mk u a b c).val q) i), .slice (some ⟨B, off, none⟩) pre.length cap]) ∧ Below w.heap.size w w' := by
  induction n with
  | zero => intro q h; exact h.elim
  | succ n ih =>
    intro q h pre w h12 hcap hL
    rcases h with ⟨s, h0, h4, rfl⟩ | ⟨t, ht, rfl⟩ | ⟨s, A, C, h5, h7, hA, hC, rfl⟩
    · have e : (pre ++ [s]).length = pre.length + 1 := by simp
      rw [e] at h12 hcap ⊢
      exact in_leaf s h0 h4 pre.length B off cap i u a b c w hok hi (by omega) hcap hL.1 hL.last
    · have e0 : pre ++ (t ++ [8]) = (pre ++ t) ++ [8] := by simp
      have e : (pre ++ (t ++ [8])).length = (pre ++ t).length + 1 := by rw [e0, List.length_append]; rfl
      rw [e] at h12 hcap ⊢
      rw [e0] at hL
      rw [has_opp hok ht i hi]
      exact in_opp (pre ++ t).length pre.length B off cap i u a b c _ w (by omega) hcap hL.1 hL.last (fun W hb => ih t ht pre W (by omega) (by omega) (hL.front.below hb))
    · have e0 : pre ++ (A ++ (C ++ [s])) = ((pre ++ A) ++ C) ++ [s] := by simp
      have e : (pre ++ (A ++ (C ++ [s]))).length = ((pre ++ A) ++ C).length + 1 := by rw [e0, List.length_append]; rfl
      have e2 : ((pre ++ A) ++ C).length = (pre ++ A).length + C.length := by rw [List.length_append]
      rw [e] at h12 hcap ⊢
      rw [e0] at hL
      rw [has_two hok h5 h7 hA hC i hi]
      exact in_two s h5 h7 ((pre ++ A) ++ C).length pre.length (pre ++ A).length B off cap i u a b c _ _ w (by omega) hcap hL.1 hL.last
        (fun W hb => ih C hC (pre ++ A) W (by omega) (by omega) (hL.front.below hb)) (fun W hb => ih A hA pre W (by omega) (by omega) (hL.front.front.below hb))

theorem In_any (t : List Int) (hf : faultN t = 0) (i : Nat) (u a b c : Int) (hok : (Wd.mk u a b c).ok = true) (hi : (i : Int) < u) (B off cap : Nat) (hcap : t.length ≤ cap) (w : World) (hL : Lies w B off t) :
    Calls Tryd.prog 98 #[.slice (some ⟨B, off, none⟩) t.length cap, .agg #[.int .i64 u, .int .i64 a, .int .i64 b, .int .i64 c], .int .i64 i] w fun e w' => e = .returned (.bool (hasB ((Wd.mk u a b c).val t) i)) ∧ Below w.heap.size w w' := by
  obtain ⟨_, h12, hs, h1⟩ := fault_zero.1 hf
  obtain ⟨k, hk⟩ := tree t hs h1
  have HI : Hid (Calls Tryd.prog 99 #[.slice (some ⟨B, off, none⟩) t.length cap, .agg #[.int .i64 u, .int .i64 a, .int .i64 b, .int .i64 c], .int .i64 i] (w.alloc (.cells #[.int .i64 u, .int .i64 a, .int .i64 b, .int .i64 c] 37)) fun e w' => e = .returned (.tuple #[.bool (hasB ((Wd.mk u a b c).val t) i), .slice (some ⟨B, off, none⟩) 0 cap]) ∧ Below (w.alloc (.cells #[.int .i64 u, .int .i64 a, .int .i64 b, .int .i64 c] 37)).heap.size (w.alloc (.cells #[.int .i64 u, .int .i64 a, .int .i64 b, .int .i64 c] 37)) w') := by
    have hL' := hL.below (below_alloc1 w (.cells #[.int .i64 u, .int .i64 a, .int .i64 b, .int .i64 c] 37))
    exact in_any i u a b c hok hi B off cap k t hk [] _ h12 hcap hL'
  have HA : Hid (Below w.heap.size w (w.alloc (.cells #[.int .i64 u, .int .i64 a, .int .i64 b, .int .i64 c] 37))) := below_alloc1 _ _
  obtain ⟨V, hV⟩ : ∃ V, V = hasB ((Wd.mk u a b c).val t) i := ⟨_, rfl⟩
  rw [← hV] at HI ⊢
  obtain ⟨n, hn⟩ : ∃ n, n = t.length := ⟨_, rfl⟩
  rw [← hn] at HI ⊢
  clear hV hn hk hL hcap hi hok h1 hs h12 hf
  go_enter Tryd.func98, Tryd.ntmps98
  go_wp2_with (go_at_call 99; refine HI.out.mono ?_; rintro e w2 ⟨rfl, hb⟩)
  go_ret
  exact ⟨rfl, HA.out.trans (hb.mono HA.out.size)⟩
end Go.Proofs.YtjaedfjfcghgcaaDoor

namespace Go.Proofs.YtjaedfjfcghgcaaDoor
open Go.ChangeShapes Go.WideShapes Go.ChangeAt Go.RowKit
set_option maxRecDepth 100000

theorem refSize_any (s : Int) (hs : 0 ≤ s) (hm : s < 64) (w : World) :
    Calls Tryd.prog 95 #[.int .i64 s] w fun e w' => e = .returned (.int .i64 (pcN s)) ∧ w = w' := by
  have HE : Hid (pcTo s 6 = pcN s) := pcTo_six s hs hm
  go_enter Tryd.func95, Tryd.ntmps95
  go_wp2
  go_loop [3, 4] (fun n i => ∃ k : Nat, k ≤ 6 ∧ i = .int .i64 k ∧ n = .int .i64 (pcTo s k)) (fun _ i => 6 - (intOf i).toNat)
  case atStart => exact ⟨0, Nat.zero_le _, rfl, rfl⟩
  case round =>
    obtain ⟨k, hk, rfl, rfl⟩ := hrel
    have p1 := pcTo_le s k
    by_cases hlt : k < 6
    · by_cases hh : hasB s k = true
      · have HS : Hid (pcTo s (k + 1) = pcTo s k + 1) := by unfold Hid; rw [pcTo, if_pos hh]
        go_wp2_with (go_at_call 70; refine (refHas_any _ _ hs ?_ ?_ _).mono ?_; omega; omega; rintro e w' ⟨rfl, rfl⟩)
        go_round
        case rel => exact ⟨k + 1, by omega, by go_num, by rw [HS.out]⟩
        case measure => simp [intOf]; omega
      · have hh' : hasB s k = false := by simpa using hh
        have HS : Hid (pcTo s (k + 1) = pcTo s k) := by unfold Hid; rw [pcTo, if_neg hh]; omega
        clear hh
        go_wp2_with (go_at_call 70; refine (refHas_any _ _ hs ?_ ?_ _).mono ?_; omega; omega; rintro e w' ⟨rfl, rfl⟩)
        go_round
        case rel => exact ⟨k + 1, by omega, by go_num, by rw [HS.out]⟩
        case measure => simp [intOf]; omega
    · obtain rfl : k = 6 := by omega
      go_wp2
      go_ret
      exact ⟨ret_i HE.out, rfl⟩
theorem in5 (x y : Bool) : inB 5 x y = (x || y) := rfl
theorem in6 (x y : Bool) : inB 6 x y = (x && y) := rfl
theorem in7 (x y : Bool) : inB 7 x y = (x && !y) := rfl
theorem in8 (x y : Bool) : inB 8 x y = !x := rfl

set_option maxHeartbeats 1000000 in
theorem refDo_any (what u a b : Int) (hl : 5 ≤ what) (hm : what ≤ 8) (ha : okB u a = true) (hb : okB u b = true) (w : World) :
    Calls Tryd.prog 96 #[.int .i64 what, .int .i64 u, .int .i64 a, .int .i64 b] w fun e w' => e = .returned (.int .i64 (doN what u a b)) ∧ w = w' := by
  obtain ⟨u0, u1, a0, a1⟩ := okB_lt ha
  obtain ⟨_, _, b0, b1⟩ := okB_lt hb
  have HE : Hid (doTo what a b u.toNat = doN what u a b) := doTo_do what u a b hl hm ha hb
  clear ha hb
  obtain ⟨n, rfl⟩ := Int.eq_ofNat_of_zero_le u0
  clear u0
  have hd : what = 5 ∨ what = 6 ∨ what = 7 ∨ what = 8 := by omega
  clear hl hm
  go_enter Tryd.func96, Tryd.ntmps96
  go_wp2
  go_loop [9, 10] (fun s i => ∃ k : Nat, k ≤ n ∧ i = .int .i64 k ∧ s = .int .i64 (doTo what a b k)) (fun _ i => n - (intOf i).toNat)
  case atStart => exact ⟨0, Nat.zero_le _, rfl, rfl⟩
  case round =>
    obtain ⟨k, hk, rfl, rfl⟩ := hrel
    have p1 := doTo_le what a b k
    by_cases hlt : k < n
    · have p2 := pw_le6 (k := k) (by omega)
      have p3 := pw_pos k
      have HS : Hid (doTo what a b (k + 1) = doTo what a b k + if inB what (hasB a k) (hasB b k) = true then pw k else 0) := rfl
      rcases hd with rfl | rfl | rfl | rfl
      all_goals
        cases hx : hasB a k <;> cases hy : hasB b k
        all_goals
          go_wp2_with (first | (go_at_call 70; refine (refHas_any _ _ ?_ ?_ ?_ _).mono ?_; omega; omega; omega; rintro e w' ⟨rfl, rfl⟩) | (go_at_call 71; refine (refPower_any _ ?_ _).mono ?_; omega; rintro e w' ⟨rfl, rfl⟩))
          go_round
          case rel => exact ⟨k + 1, by omega, by go_num, by rw [HS.out, hx, hy]; simp [in5, in6, in7, in8]⟩
          case measure => simp [intOf]; omega
    · obtain rfl : k = n := by omega
      go_wp2
      go_ret
      exact ⟨ret_i HE.out, rfl⟩
end Go.Proofs.YtjaedfjfcghgcaaDoor

namespace Go.Proofs.YtjaedfjfcghgcaaDoor
open Go.ChangeShapes Go.WideShapes Go.ChangeAt Go.RowKit
set_option maxRecDepth 100000

set_option maxRecDepth 100000 in
set_option maxHeartbeats 4000000 in
theorem refValue_any (t : List Int) (hf : faultN t = 0) (u a b c : Int) (hok : (Wd.mk u a b c).ok = true) (B off cap : Nat) (hcap : t.length ≤ cap) (w : World) (hL : Lies w B off t) :
    Calls Tryd.prog 94 #[.slice (some ⟨B, off, none⟩) t.length cap, .agg #[.int .i64 u, .int .i64 a, .int .i64 b, .int .i64 c]] w fun e w' => e = .returned (.int .i64 ((Wd.mk u a b c).val t)) ∧ Below w.heap.size w w' := by
  have hv := ok_val hok t
  simp only at hv
  obtain ⟨hu0, hu6, _, _⟩ := okB_lt hv
  have HS : Hid (sumTo ((Wd.mk u a b c).val t) u.toNat = (Wd.mk u a b c).val t) := sumTo_all hv
  have HIn : Hid (∀ i : Nat, (i : Int) < u → ∀ W, Below w.heap.size w W → Calls Tryd.prog 98 #[.slice (some ⟨B, off, none⟩) t.length cap, .agg #[.int .i64 u, .int .i64 a, .int .i64 b, .int .i64 c], .int .i64 i] W fun e w' => e = .returned (.bool (hasB ((Wd.mk u a b c).val t) i)) ∧ Below W.heap.size W w') := fun i hi W hb => In_any t hf i u a b c hok hi B off cap hcap W (hL.below hb)
  obtain ⟨V, hV⟩ : ∃ V, V = (Wd.mk u a b c).val t := ⟨_, rfl⟩
  rw [← hV] at HS HIn ⊢
  obtain ⟨n, hn⟩ : ∃ n, n = t.length := ⟨_, rfl⟩
  rw [← hn] at HIn ⊢
  clear hV hn hv hL hcap hok hf
  obtain ⟨U, rfl⟩ := Int.eq_ofNat_of_zero_le hu0
  rw [Int.toNat_natCast] at HS
  clear hu0
  obtain ⟨w1, hw1⟩ : ∃ w1, w1 = w.alloc (.cells #[.int .i64 (U : Int), .int .i64 a, .int .i64 b, .int .i64 c] 37) := ⟨_, rfl⟩
  have HX : Hid (∀ W, Below w1.heap.size w1 W → W.cell? ⟨w.heap.size, 0, none⟩ = some (.int .i64 (U : Int)) ∧ W.cell? ⟨w.heap.size, 1, none⟩ = some (.int .i64 a) ∧ W.cell? ⟨w.heap.size, 2, none⟩ = some (.int .i64 b) ∧ W.cell? ⟨w.heap.size, 3, none⟩ = some (.int .i64 c)) := fun W hc => by
    have hlt : w.heap.size < w1.heap.size := by rw [hw1]; simp
    rw [hc.cell (p := ⟨w.heap.size, 0, none⟩) hlt, hc.cell (p := ⟨w.heap.size, 1, none⟩) hlt, hc.cell (p := ⟨w.heap.size, 2, none⟩) hlt, hc.cell (p := ⟨w.heap.size, 3, none⟩) hlt, hw1]
    simp
  have HW : Hid (Below w.heap.size w w1 ∧ w.heap.size ≤ w1.heap.size) := by
    refine ⟨?_, ?_⟩
    · rw [hw1]; exact below_alloc1 _ _
    · rw [hw1]; simp
  go_enter Tryd.func94, Tryd.ntmps94
  go_wp2
  rw [← hw1]
  clear hw1
  go_loopw [5, 6] (fun s i wr => ∃ k : Nat, k ≤ U ∧ i = .int .i64 k ∧ s = .int .i64 (sumTo V k) ∧ Below w1.heap.size w1 wr) (fun _ i _ => U - (intOf i).toNat)
  case atStart => exact ⟨0, Nat.zero_le _, rfl, rfl, Below.refl _ _⟩
  case round =>
    obtain ⟨k, hk, rfl, rfl, hbel⟩ := hrel
    obtain ⟨x0, x1, x2, x3⟩ := HX.out _ hbel
    have HB : Hid (Below w1.heap.size w1 wr) := hbel
    have HB0 : Hid (Below w.heap.size w wr) := HW.out.1.trans (hbel.mono HW.out.2)
    clear hbel
    have p1 := sumTo_le V k
    by_cases hlt : k < U
    · have p2 := pw_le6 (k := k) (by omega)
      have p3 := pw_pos k
      have HI := HIn.out k (by omega) wr HB0.out
      have HI' : Hid (Calls Tryd.prog 98 #[.slice (some ⟨B, off, none⟩) n cap, .agg #[.int .i64 (U : Int), .int .i64 a, .int .i64 b, .int .i64 c], .int .i64 k] wr fun e w' => e = .returned (.bool (hasB V k)) ∧ Below wr.heap.size wr w') := HI
      clear HI
      have HT : Hid (sumTo V (k + 1) = sumTo V k + if hasB V k = true then pw k else 0) := rfl
      cases hx : hasB V k
      · rw [hx] at HI'
        have HE : Hid (sumTo V (k + 1) = sumTo V k) := by unfold Hid; rw [HT.out, hx]; simp
        clear hx HT
        go_wp2_with (go_at_call 98; refine HI'.out.mono ?_; rintro e w2 ⟨rfl, hb⟩)
        go_roundw
        case rel => exact ⟨k + 1, by omega, by go_num, by rw [HE.out], HB.out.trans (hb.mono HB.out.size)⟩
        case measure => simp [intOf]; omega
      · rw [hx] at HI'
        have HE : Hid (sumTo V (k + 1) = sumTo V k + pw k) := by unfold Hid; rw [HT.out, hx]; simp
        clear hx HT
        go_wp2_with (first | (go_at_call 98; refine HI'.out.mono ?_; rintro e w2 ⟨rfl, hb⟩) | (go_at_call 71; refine (refPower_any _ ?_ _).mono ?_; omega; rintro e w' ⟨rfl, rfl⟩))
        go_roundw
        case rel => exact ⟨k + 1, by omega, by go_num, by rw [HE.out], HB.out.trans (hb.mono HB.out.size)⟩
        case measure => simp [intOf]; omega
    · obtain rfl : k = U := by omega
      go_wp2
      go_ret
      exact ⟨back_i HS.out, HB0.out⟩
end Go.Proofs.YtjaedfjfcghgcaaDoor
