/-
  Proved: what term.made returns, of a right sign, the sets that it takes, and a right world; what was in memory is as it was (a contract that the statements lean on).
  Proved: what term.work returns, of a right term and a right world: the set that the pile comes to; what was in memory is as it was (a contract that the statements lean on).
  Proved: what term.work returns, of a right term and a right world: the set that the pile comes to; what was in memory is as it was (a contract that the statements lean on).
  Proved: what term.CheckWorld and term.Value return, of any row of signs and any world; what was in memory is as it was (a contract that the statements lean on).
-/
import Derived.Test.YtfnkbbpjfjendaiGreatDoorLibTX1
import Derived.Deep.QuietTactic
import Derived.BigQuiet
import Derived.RegionTactic
import Derived.ChangeAlike
import Derived.OwnWalk
import Derived.Deep.RegionWith
import Derived.Laws.OwnMore
namespace Go.Proofs.YtfnkbbpjfjendaiGreatDoor
open Go.ChangeShapes Go.WideShapes Go.ChangeAt Go.RowKit

theorem below_drewNs (w : World) : ∀ n, Below w.heap.size w (w.drewN n)
  | 0 => Below.refl _ _
  | n + 1 => (below_drewNs w n).drew

theorem back_two {k : IntKind} {a b : Int} {v : Value} (h : a = b) : Ending.returned (.tuple #[.int k a, v]) = .returned (.tuple #[.int k b, v]) := by rw [h]

end Go.Proofs.YtfnkbbpjfjendaiGreatDoor

namespace Go.Proofs.YtfnkbbpjfjendaiGreatDoor
open Go.ChangeShapes Go.WideShapes Go.ChangeAt Go.RowKit

theorem infoInt : (Tryz.prog.info? 3).map (fun i => (i.zero, i.size, i.bytes)) = some (some (.int .i64 0), 1, 8) := by kernel_rfl

theorem ownsRow_below {w w' : World} {base : Nat} {e : TypeId} {size : Nat} {v : Value} {n : Nat} {xs : List Value} (h : w.ownsRow base e size v n xs) (hb : Below w.heap.size w w') : w'.ownsRow base e size v n xs := by
  obtain ⟨h1, h2⟩ := h
  refine ⟨h1, ?_⟩
  rcases h2 with h2 | ⟨g, cap, cur, hv, hg, hh, r⟩
  · exact .inl h2
  · refine .inr ⟨g, cap, cur, hv, hg, ?_, r⟩
    rw [hb.block g (Array.getElem?_eq_some_iff.1 hh).1]; exact hh
theorem ownsRow_take {w : World} {base : Nat} {e : TypeId} {g cap n r : Nat} {xs : List Value} (h : w.ownsRow base e 1 (.slice (some ⟨g, 0, none⟩) n cap) n xs) (hr : r ≤ n) : w.ownsRow base e 1 (.slice (some ⟨g, 0, none⟩) r cap) r (xs.take r) := by
  obtain ⟨h1, h2⟩ := h
  rcases h2 with ⟨h0, _⟩ | ⟨g', cap', cur, hv, hg, hh, hn, hcap, hsz, htake⟩
  · cases h0
  · cases hv
    refine ⟨by rw [List.length_take]; omega, .inr ⟨g, cap, cur, rfl, hg, hh, by omega, hcap, hsz, ?_⟩⟩
    rw [← htake, List.take_take]
    congr 1
    omega
/-- an owned row of numbers: its cells. -/
theorem ownsRow_int {w : World} {base : Nat} {e : TypeId} {g cap : Nat} {p : List Int} (h : w.ownsRow base e 1 (.slice (some ⟨g, 0, none⟩) p.length cap) p.length (p.map (Value.int .i64))) {j : Nat} (hj : j < p.length) : w.cell? ⟨g, j, none⟩ = some (.int .i64 (p.getD j 0)) := by
  rw [h.cellAt j (by omega)]
  simp [List.getElem?_eq_getElem hj]
theorem ownsRow_block {w : World} {base : Nat} {e : TypeId} {size g n cap : Nat} {xs : List Value} (h : w.ownsRow base e size (.slice (some ⟨g, 0, none⟩) n cap) n xs) : base ≤ g ∧ g < w.heap.size ∧ n ≤ cap := by
  rcases h.2 with ⟨h0, _⟩ | ⟨g', cap', cur, hv, hg, hh, hn, _⟩
  · cases h0
  · cases hv
    exact ⟨hg, (Array.getElem?_eq_some_iff.1 hh).1, hn⟩

theorem step_leaf (w : Wd) (p : List Int) (s : Int) (h : s ≤ 4) : w.step p s = p.take p.length ++ [w.made s []] := by
  unfold Wd.step restN
  rw [takes5 s (by omega), made_leaf w s _ h]; rfl
theorem step_one (w : Wd) (p : List Int) (h : 1 ≤ p.length) : w.step p 8 = p.take (p.length - 1) ++ [doN 8 w.u (p.getD (p.length - 1) 0) (p.getD (p.length - 1) 0)] := by
  unfold Wd.step restN
  rw [takes1, made_do w 8 _ (by omega)]
  have e : (p.drop (p.length - 1)) = [p.getD (p.length - 1) 0] := by
    rw [List.drop_eq_getElem_cons (by omega), List.drop_eq_nil_of_le (by omega)]
    simp [List.getElem?_eq_getElem (show p.length - 1 < p.length by omega)]
  simp only [show (1 : Int).toNat = 1 from rfl, e]; rfl
theorem step_two (w : Wd) (p : List Int) (s : Int) (h5 : 5 ≤ s) (h7 : s ≤ 7) (h : 2 ≤ p.length) : w.step p s = p.take (p.length - 2) ++ [doN s w.u (p.getD (p.length - 2) 0) (p.getD (p.length - 2 + 1) 0)] := by
  unfold Wd.step restN
  rw [takes2 s h5 h7, made_do w s _ h5]
  have e : (p.drop (p.length - 2)) = [p.getD (p.length - 2) 0, p.getD (p.length - 2 + 1) 0] := by
    rw [List.drop_eq_getElem_cons (by omega), List.drop_eq_getElem_cons (by omega), List.drop_eq_nil_of_le (by omega)]
    simp [List.getElem?_eq_getElem (show p.length - 2 < p.length by omega), List.getElem?_eq_getElem (show p.length - 2 + 1 < p.length by omega)]
  simp only [show (2 : Int).toNat = 2 from rfl, e]; rfl

/-- what a round leaves. -/
theorem work_rel {w1 wr wm w2 : World} {K : Nat} {v v' : Value} {p q : List Int} {r : Nat} {X : Int} (hK : K ≤ wr.heap.size) (hb : Below K w1 wr) (hm : Below wr.heap.size wr wm)
    (hown : w2.ownsRow K 3 1 v' (r + 1) (((p.take r).map (Value.int .i64)) ++ [.int .i64 X])) (hv : ∀ k, v.ownBlock = some k → K ≤ k)
    (hg : (wm.alloc (.cells #[.int .i64 X] 3)).grownBy w2 v.ownBlock) (hr : r ≤ p.length) (hq : q = p.take r ++ [X]) :
    w2.ownsRow K 3 1 v' q.length (q.map (Value.int .i64)) ∧ Below K w1 w2 ∧ K ≤ w2.heap.size := by
  have hs : wr.heap.size ≤ wm.heap.size := hm.size
  have e1 : q.length = r + 1 := by rw [hq]; simp; omega
  have e2 : q.map (Value.int .i64) = ((p.take r).map (Value.int .i64)) ++ [.int .i64 X] := by rw [hq]; simp
  have b1 : Below K w1 (wm.alloc (.cells #[.int .i64 X] 3)) := (hb.trans (hm.mono hK)).alloc (by omega) _
  have b2 : Below K w1 w2 := b1.grown hg (by simp; omega) hv
  refine ⟨by rw [e1, e2]; exact hown, b2, ?_⟩
  have := hg.size
  simp at this
  omega
end Go.Proofs.YtfnkbbpjfjendaiGreatDoor

namespace Go.Proofs.YtfnkbbpjfjendaiGreatDoor
open Go.ChangeShapes Go.WideShapes Go.ChangeAt Go.RowKit

/-- behind a draw or some. -/
theorem below_of_drew {w wm : World} (h : Below w.drew.heap.size w.drew wm) : Below w.heap.size w wm := ((Below.refl _ w).drew).trans h

end Go.Proofs.YtfnkbbpjfjendaiGreatDoor

namespace Go.Proofs.YtfnkbbpjfjendaiGreatDoor
open Go.ChangeShapes Go.WideShapes Go.ChangeAt Go.RowKit

/-- what Value answers: the set, and the number of the error. -/
def Wd.answer (w : Wd) (t : List Int) : Int := if faultN t = 0 then (if w.ok = true then w.val t else 0) else 0
def Wd.fault (w : Wd) (t : List Int) : Int := if faultN t = 0 then (if w.ok = true then 0 else 1) else faultN t

theorem back_2 {a b x y : Value} (h : a = b) (h' : x = y) : Ending.returned (.tuple #[a, x]) = .returned (.tuple #[b, y]) := by rw [h, h']

end Go.Proofs.YtfnkbbpjfjendaiGreatDoor
