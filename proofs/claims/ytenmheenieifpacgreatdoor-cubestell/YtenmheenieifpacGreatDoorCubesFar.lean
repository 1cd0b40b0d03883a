/-
  Proved: what the order of members returns (the function that cubes.joined hands to slices.SortFunc), and what is left of memory behind a sort (facts that the contracts on cubes lean on).
-/
import Derived.Test.YtenmheenieifpacGreatDoorShelf2
import Derived.Test.YtenmheenieifpacGreatDoorCubesConcat
namespace Go.Proofs.YtenmheenieifpacGreatDoor
open Go.ChangeShapes Go.WideShapes Go.ChangeAt Go.RowKit
open Go.Shelf
set_option maxRecDepth 100000

theorem far_any (x y : Int) (hx : x.natAbs ≤ 6) (hy : y.natAbs ≤ 6) (w : World) :
    Calls Tryz.prog 71 #[.int .i64 x, .int .i64 y] w fun e w' => e = .returned (.int .i64 (farC x y)) ∧ w' = w := by
  have h := AnyG.cmp_Compare_int Tryz.laysCompare x.natAbs y.natAbs w
  change Calls Tryz.prog 72 _ _ _ at h
  have H : Hid (Calls Tryz.prog 72 #[.int .i64 x.natAbs, .int .i64 y.natAbs] w fun e w' => e = .returned (.int .i64 (farC x y)) ∧ w' = w) := h
  clear h
  obtain ⟨R, hR⟩ : ∃ R, R = farC x y := ⟨_, rfl⟩
  rw [← hR] at H ⊢
  clear hR
  have x1 : -9223372036854775808 ≤ -x := by omega
  have x2 : -x ≤ 9223372036854775807 := by omega
  have y1 : -9223372036854775808 ≤ -y := by omega
  have y2 : -y ≤ 9223372036854775807 := by omega
  have ex : max x (-x) = (x.natAbs : Int) := by omega
  have ey : max y (-y) = (y.natAbs : Int) := by omega
  go_enter Tryz.func71, Tryz.ntmps71
  go_wp2_with (go_at_call 72; refine H.out.mono ?_; rintro e w' ⟨rfl, rfl⟩)
  go_ret
  exact ⟨rfl, rfl⟩
/-- the members of cubes. -/
abbrev Mem := { x : Int // x.natAbs ≤ 6 }
instance : Inhabited Mem := ⟨⟨0, by decide⟩⟩
def encM (x : Mem) : Value := .int .i64 x.1
def farM (x y : Mem) : Int := farC x.1 y.1
theorem farM_lt (x y : Mem) : ltOf farM x y = decide (x.1.natAbs < y.1.natAbs) := by
  unfold ltOf farM farC Lib.compareInt
  by_cases h1 : x.1.natAbs < y.1.natAbs
  · have : (x.1.natAbs : Int) < (y.1.natAbs : Int) := by omega
    simp [h1, this]
  · have : ¬ (x.1.natAbs : Int) < (y.1.natAbs : Int) := by omega
    by_cases h2 : (y.1.natAbs : Int) < (x.1.natAbs : Int) <;> simp [h1, this, h2]
theorem farM_swo : Sort.SWO (ltOf farM) where
  irrefl x := by rw [farM_lt]; simp
  trans x y z h1 h2 := by rw [farM_lt] at *; simp at *; omega
  ntrans x y z h1 h2 := by rw [farM_lt] at *; simp at *; omega
theorem below_put {α : Type} [Inhabited α] {enc : α → Value} {w : World} {K blk off m : Nat} {d : Array α} (hK : K ≤ blk) : Below K w (Sort.putRow enc (Sort.ahead w m) blk off d) := by
  refine ⟨rfl, rfl, rfl, by simp [Sort.ahead], fun k hk => ?_⟩
  have : blk ≠ k := by omega
  simp [Sort.putRow, Sort.mapBlock, Array.getElem?_modify, this, Sort.ahead]
theorem below_grow {w : World} {K : Nat} {os : Array Obj} (hK : K ≤ w.heap.size) : Below K w (Sort.grow w os) :=
  ⟨rfl, rfl, rfl, by simp, fun k hk => Sort.heap_grow_old w os (by omega)⟩
theorem below_sort {α : Type} [Inhabited α] {enc : α → Value} {w : World} {K blk off m : Nat} {d : Array α} {os : Array Obj} (hK : K ≤ blk) (hs : K ≤ w.heap.size) : Below K w (sortWorld enc w blk off m d os) := by
  unfold sortWorld
  exact (below_put hK).trans (below_grow (by simp [Sort.ahead]; exact hs))
end Go.Proofs.YtenmheenieifpacGreatDoor
