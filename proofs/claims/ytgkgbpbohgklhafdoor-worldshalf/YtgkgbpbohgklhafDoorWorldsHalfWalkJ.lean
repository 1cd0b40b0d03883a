/-
  Proved: vennlaw4.WorldsHalf returns true, of any name and any number of things, where worlds.Of answers as chapter 11 says; what was in memory is as it was (the walk that the statement leans on).
-/
import Derived.Test.YtgkgbpbohgklhafDoorLibPC5
import Derived.Test.YtgkgbpbohgklhafDoorLibPC8
import Derived.Test.YtgkgbpbohgklhafDoorLibPC7
import Derived.Test.YtgkgbpbohgklhafDoorLibPC1
namespace Go.Proofs.YtgkgbpbohgklhafDoor
open Go.ChangeShapes Go.WideShapes Go.ChangeAt Go.RowKit
set_option maxRecDepth 100000

/-- the formula that a name has nothing. -/
def halfA (name : Int) : List At := [⟨4, [name], [], 0⟩]
theorem half_facts : ∀ name : Nat, name < 3 → ∀ u : Nat, u < 7 → worldsFault (halfA (name : Int)) [0] (u : Int) = 0 ∧ worldsN (halfA (name : Int)) [0] (u : Int) = pw (2 * u) := by decide +kernel
theorem half_bad : ∀ name : Nat, name < 9 → 5 ≤ name → ¬ formFault (halfA (name : Int)) [0] = 0 := by decide +kernel
theorem half_out {name u : Int} (h : name < 0 ∨ 2 < name ∨ u < 0 ∨ 6 < u) : ¬ worldsFault (halfA name) [0] u = 0 ∨ (2 < name ∧ name < 5) := by
  by_cases hw : worldsFault (halfA name) [0] u = 0
  · right
    obtain ⟨hf, hu⟩ := worlds_zero hw
    have ha := (formFault_zero.1 hf).2.2.1 ⟨4, [name], [], 0⟩ (by unfold halfA; simp)
    have hr : 0 ≤ name ∧ name ≤ 8 := by
      have ht : faultN [name] = 0 := by
        have h : atomFault 4 [name] [] 0 = 0 := ha
        unfold atomFault at h
        rw [if_pos (by decide)] at h
        by_cases ht : faultN [name] = 0
        · exact ht
        · rw [if_neg ht] at h; exact h
      have := (fault_zero.1 ht).2.2.1
      simpa [signB_iff] using this
    obtain ⟨k, rfl⟩ := Int.eq_ofNat_of_zero_le hr.1
    rcases Nat.lt_or_ge k 5 with h5 | h5
    · omega
    · exact absurd hf (half_bad k (by omega) h5)
  · exact Or.inl hw

theorem pow_more (n : Nat) (hn : n ≤ 12) (w : World) : Calls Tryd.prog 17 #[.int .i64 n] w fun e w' => e = .returned (.int .i64 (pw n)) ∧ w' = w := by
  have hb : ∀ k, k ≤ 12 → 1 ≤ pw k ∧ pw k ≤ 4096 := by decide
  have HB : Hid (∀ k, k ≤ 12 → 1 ≤ pw k ∧ pw k ≤ 4096) := hb
  clear hb
  go_enter Tryd.func17, Tryd.ntmps17
  go_wp2
  go_loop [3, 4] (fun p i => ∃ k : Nat, k ≤ n ∧ i = .int .i64 k ∧ p = .int .i64 (pw k)) (fun _ i => n - (intOf i).toNat)
  case atStart => exact ⟨0, Nat.zero_le _, rfl, rfl⟩
  case round =>
    obtain ⟨k, hk, rfl, rfl⟩ := hrel
    by_cases hlt : k < n
    · have h1 := HB.out (k + 1) (by omega)
      have h2 := HB.out k (by omega)
      have HS : Hid (pw (k + 1) = 2 * pw k) := pw_succ k
      rw [HS.out] at h1
      go_wp2
      go_round
      case rel => exact ⟨k + 1, by omega, by go_num, by rw [HS.out]⟩
      case measure => simp [intOf]; omega
    · obtain rfl : k = n := by omega
      go_wp2
      go_ret
      exact ⟨rfl, rfl⟩

theorem half_at (w : World) (o0 o1 o2 o3 : Obj) :
    ((((w.alloc o0).alloc o1).alloc o2).alloc o3).heap[w.heap.size]? = some o0 ∧
    ((((w.alloc o0).alloc o1).alloc o2).alloc o3).heap[w.heap.size + 1]? = some o1 ∧
    ((((w.alloc o0).alloc o1).alloc o2).alloc o3).heap[w.heap.size + 1 + 1]? = some o2 ∧
    ((((w.alloc o0).alloc o1).alloc o2).alloc o3).heap[w.heap.size + 1 + 1 + 1]? = some o3 ∧
    Below w.heap.size w ((((w.alloc o0).alloc o1).alloc o2).alloc o3) := by
  have s1 : (w.alloc o0).heap.size = w.heap.size + 1 := World.size_alloc _ _
  have s2 : ((w.alloc o0).alloc o1).heap.size = w.heap.size + 1 + 1 := by rw [World.size_alloc, s1]
  have s3 : (((w.alloc o0).alloc o1).alloc o2).heap.size = w.heap.size + 1 + 1 + 1 := by rw [World.size_alloc, s2]
  refine ⟨?_, ?_, ?_, ?_, ?_⟩
  · rw [Below.heap_alloc _ _ _ (by omega), Below.heap_alloc _ _ _ (by omega), Below.heap_alloc _ _ _ (by omega)]; exact heap_alloc_new _ _
  · rw [Below.heap_alloc _ _ _ (by omega), Below.heap_alloc _ _ _ (by omega), ← s1]; exact heap_alloc_new _ _
  · rw [Below.heap_alloc _ _ _ (by omega), ← s2]; exact heap_alloc_new _ _
  · rw [← s3]; exact heap_alloc_new _ _
  · exact ((((Below.refl _ w).alloc (Nat.le_refl _) _).alloc (by omega) _).alloc (by omega) _).alloc (by omega) _

set_option maxHeartbeats 4000000 in
theorem worldsHalf_of (name u : Int) (w : World)
    (cOf : ∀ (va vc : Value) (ats : List At) (c : List Int) (u : Int) (W : World), Below w.heap.size w W → ReadsA W va ats → Reads W vc c → Calls Tryd.prog 16 #[.agg #[va, vc], .int .i64 u] W fun e w' => e = .returned (.tuple #[.int .i64 (worldsN ats c u), errV (worldsFault ats c u)]) ∧ Below W.heap.size W w') :
    Calls Tryd.prog 4 #[.int .i64 name, .int .i64 u] w fun e w' => e = .returned (.bool true) ∧ Below w.heap.size w w' := by
  obtain ⟨b0, b1, b2, b3, hB⟩ := half_at w (.cells #[.int .i64 name] 3) (.cells #[.int .i64 4, .slice (some ⟨w.heap.size, 0, none⟩) 1 1, .slice none 0 0, .int .i64 0] 47) (.cells #[.int .i64 0] 3) (.cells #[.slice (some ⟨w.heap.size + 1, 0, none⟩) 1 1, .slice (some ⟨w.heap.size + 1 + 1, 0, none⟩) 1 1] 25)
  obtain ⟨W, hW⟩ : ∃ W, W = (((w.alloc (.cells #[.int .i64 name] 3)).alloc (.cells #[.int .i64 4, .slice (some ⟨w.heap.size, 0, none⟩) 1 1, .slice none 0 0, .int .i64 0] 47)).alloc (.cells #[.int .i64 0] 3)).alloc (.cells #[.slice (some ⟨w.heap.size + 1, 0, none⟩) 1 1, .slice (some ⟨w.heap.size + 1 + 1, 0, none⟩) 1 1] 25) := ⟨_, rfl⟩
  rw [← hW] at b0 b1 b2 b3 hB
  have k1 : Blk W w.heap.size 3 #[.int .i64 name] := b0
  have k2 : Blk W (w.heap.size + 1) 47 #[.int .i64 4, .slice (some ⟨w.heap.size, 0, none⟩) 1 1, .slice none 0 0, .int .i64 0] := b1
  have k3 : Blk W (w.heap.size + 1 + 1) 3 #[.int .i64 0] := b2
  have HP : Hid (Blk W (w.heap.size + 1 + 1 + 1) 25 #[.slice (some ⟨w.heap.size + 1, 0, none⟩) 1 1, .slice (some ⟨w.heap.size + 1 + 1, 0, none⟩) 1 1]) := b3
  have rA : ReadsA W (.slice (some ⟨w.heap.size + 1, 0, none⟩) 1 1) (halfA name) := by
    refine Or.inr ⟨w.heap.size + 1, 0, 1, rfl, k2.lt, by simp [halfA], ⟨by simp [halfA], by simp [halfA]⟩, fun i a ha => ?_⟩
    cases i with
    | zero =>
      obtain rfl : (⟨4, [name], [], 0⟩ : At) = a := by simpa [halfA] using ha
      refine ⟨_, _, k2.cell 0, k2.cell 1, k2.cell 2, k2.cell 3, Or.inr ⟨w.heap.size, 0, 1, rfl, k1.lt, by simp, ⟨by simp, by simp⟩, fun j hj => ?_⟩, Or.inl ⟨none, 0, rfl, rfl⟩⟩
      obtain rfl : j = 0 := by simp at hj; exact hj
      exact k1.cell 0
    | succ i => simp [halfA] at ha
  have rC : Reads W (.slice (some ⟨w.heap.size + 1 + 1, 0, none⟩) 1 1) [0] := by
    refine Or.inr ⟨w.heap.size + 1 + 1, 0, 1, rfl, k3.lt, by simp, ⟨by simp, by simp⟩, fun j hj => ?_⟩
    obtain rfl : j = 0 := by simp at hj; exact hj
    exact k3.cell 0
  have HOf : Hid (Calls Tryd.prog 16 #[.agg #[.slice (some ⟨w.heap.size + 1, 0, none⟩) 1 1, .slice (some ⟨w.heap.size + 1 + 1, 0, none⟩) 1 1], .int .i64 u] W fun e w' => e = .returned (.tuple #[.int .i64 (worldsN (halfA name) [0] u), errV (worldsFault (halfA name) [0] u)]) ∧ Below W.heap.size W w') := cOf _ _ (halfA name) [0] u W hB rA rC
  have HB : Hid (Below w.heap.size w W) := hB
  obtain ⟨n, hn⟩ : ∃ n, n = worldsN (halfA name) [0] u := ⟨_, rfl⟩
  have x0 : W.cell? ⟨w.heap.size + 1 + 1 + 1, 0, none⟩ = some (.slice (some ⟨w.heap.size + 1, 0, none⟩) 1 1) := HP.out.cell 0
  have x1 : W.cell? ⟨w.heap.size + 1 + 1 + 1, 1, none⟩ = some (.slice (some ⟨w.heap.size + 1 + 1, 0, none⟩) 1 1) := HP.out.cell 1
  clear b0 b1 b2 b3 k1 k2 k3 rA rC cOf
  by_cases hout : name < 0 ∨ 2 < name ∨ u < 0 ∨ 6 < u
  · rw [← hn] at HOf
    clear hn
    obtain ⟨E, hE, hEq⟩ : ∃ E, errV (worldsFault (halfA name) [0] u) = E ∧ ((∃ m, E = .iface 59 (.int .i64 m)) ∨ (E = .nilIface ∧ 2 < name ∧ name < 5)) := by
      by_cases h0 : worldsFault (halfA name) [0] u = 0
      · rcases half_out hout with h | h
        · exact absurd h0 h
        · exact ⟨.nilIface, by rw [h0]; rfl, Or.inr ⟨rfl, h⟩⟩
      · exact ⟨_, errV_no h0, Or.inl ⟨_, rfl⟩⟩
    rw [hE] at HOf
    clear hE
    go_enter Tryd.func4, Tryd.ntmps4
    go_wp2_with fail
    rw [← hW]
    clear hW
    go_wp2_with fail
    go_at_call 16
    refine HOf.out.mono ?_
    rintro e w2 ⟨rfl, hb⟩
    have HB2 : Hid (Below w.heap.size w w2) := HB.out.trans (hb.mono HB.out.size)
    clear hb x0 x1
    rcases hEq with ⟨m, rfl⟩ | ⟨rfl, h2, h5⟩
    · rcases hout with h | h | h | h
      · go_wp2
        go_ret
        exact ⟨rfl, HB2.out⟩
      · by_cases h1 : name < 0
        · omega
        · go_wp2
          go_ret
          exact ⟨rfl, HB2.out⟩
      · by_cases h1 : name < 0
        · go_wp2
          go_ret
          exact ⟨rfl, HB2.out⟩
        · by_cases h3 : 2 < name
          · go_wp2
            go_ret
            exact ⟨rfl, HB2.out⟩
          · go_wp2
            go_ret
            exact ⟨rfl, HB2.out⟩
      · by_cases h1 : name < 0
        · go_wp2
          go_ret
          exact ⟨rfl, HB2.out⟩
        · by_cases h3 : 2 < name
          · go_wp2
            go_ret
            exact ⟨rfl, HB2.out⟩
          · by_cases h4 : u < 0
            · omega
            · go_wp2
              go_ret
              exact ⟨rfl, HB2.out⟩
    · clear hout
      have h1 : ¬ name < 0 := by omega
      go_wp2
      go_ret
      exact ⟨rfl, HB2.out⟩
  · obtain ⟨k, rfl⟩ := Int.eq_ofNat_of_zero_le (by omega : 0 ≤ name)
    obtain ⟨v, rfl⟩ := Int.eq_ofNat_of_zero_le (by omega : 0 ≤ u)
    obtain ⟨f1, f2⟩ := half_facts k (by omega) v (by omega)
    rw [f1, f2] at HOf
    have HPw : Hid (∀ W, Calls Tryd.prog 17 #[.int .i64 (2 * (v : Int))] W fun e w' => e = .returned (.int .i64 (pw (2 * v))) ∧ w' = W) := fun W => pow_more (2 * v) (by omega) W
    obtain ⟨P, hP⟩ : ∃ P, P = pw (2 * v) := ⟨_, rfl⟩
    rw [← hP] at HOf HPw
    have hk2 : k ≤ 2 := by omega
    have hv6 : v ≤ 6 := by omega
    clear hout f1 f2 hn hP
    have HOf' : Hid (Calls Tryd.prog 16 #[.agg #[.slice (some ⟨w.heap.size + 1, 0, none⟩) 1 1, .slice (some ⟨w.heap.size + 1 + 1, 0, none⟩) 1 1], .int .i64 v] W fun e w' => e = .returned (.tuple #[.int .i64 P, .nilIface]) ∧ Below W.heap.size W w') := HOf
    clear HOf
    go_enter Tryd.func4, Tryd.ntmps4
    go_wp2_with fail
    rw [← hW]
    clear hW
    go_wp2_with fail
    go_at_call 16
    refine HOf'.out.mono ?_
    rintro e w2 ⟨rfl, hb⟩
    have HB2 : Hid (Below w.heap.size w w2) := HB.out.trans (hb.mono HB.out.size)
    clear hb x0 x1
    go_wp2_with fail
    go_at_call 17
    refine (HPw.out _).mono ?_
    rintro e w3 ⟨rfl, rfl⟩
    go_wp2
    go_ret
    exact ⟨rfl, HB2.out⟩
end Go.Proofs.YtgkgbpbohgklhafDoor
