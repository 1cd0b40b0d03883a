/-
  Proved: what the reference's is and True return, of a right formula and a right world; what was in memory is as it was (contracts that the statements lean on).
-/
import Derived.Test.YtgkgbpbohgklhafDoorFormIs
namespace Go.Proofs.YtgkgbpbohgklhafDoor
open Go.ChangeShapes Go.WideShapes Go.ChangeAt Go.RowKit
set_option maxRecDepth 100000

theorem is_any (ats : List At) (u a b c : Int) (hok : (Wd.mk u a b c).ok = true) (hgood : ∀ x ∈ ats, x.fault = 0) (hm6 : ats.length ≤ 6) (ao co : Option Addr) (n acap ccap B off cap : Nat) (N : Nat) :
    ∀ (q : List Int), isFm ats.length N q → ∀ (pre : List Int) (w : World), (pre ++ q).length ≤ 20 → (pre ++ q).length ≤ cap → Lies w B off (pre ++ q) → ReadsA w (.slice ao ats.length acap) ats →
    Calls Tryd.prog 34 #[.agg #[.slice ao ats.length acap, .slice co n ccap], .slice (some ⟨B, off, none⟩) (pre ++ q).length cap, .agg #[.int .i64 u, .int .i64 a, .int .i64 b, .int .i64 c]] w fun e w' => e = .returned (.tuple #[.bool (valF ((Wd.mk u a b c).heldL ats) q), .slice (some ⟨B, off, none⟩) pre.length cap]) ∧ Below w.heap.size w w' := by
  induction N with
  | zero => intro q h; exact h.elim
  | succ N ih =>
    intro q h pre w h20 hcap hL hA
    rcases h with ⟨s, h0, h4, rfl⟩ | ⟨t, ht, rfl⟩ | ⟨s, x, y, h5, hx, hy, rfl⟩
    · have e : (pre ++ [s]).length = pre.length + 1 := by simp
      rw [e] at h20 hcap ⊢
      have hlt : s.toNat < ats.length := by omega
      have hat : ats[s.toNat]? = some (ats[s.toNat]'hlt) := List.getElem?_eq_getElem hlt
      have hf : (ats[s.toNat]'hlt).fault = 0 := hgood _ (List.getElem_mem hlt)
      have hv : valF ((Wd.mk u a b c).heldL ats) [s] = (Wd.mk u a b c).holds (ats[s.toNat]'hlt).k (ats[s.toNat]'hlt).s (ats[s.toNat]'hlt).t (ats[s.toNat]'hlt).n := by
        rw [valF_leaf _ (by omega)]
        unfold Wd.heldL
        rw [List.getD_eq_getElem?_getD, List.getElem?_map, hat]
        rfl
      rw [hv]
      exact is_leaf s h0 _ _ ats ao co _ n acap ccap rfl h4 hm6 hat pre.length B off cap u a b c w hcap (by omega) hL.1 hL.last hA
        (fun W vs vt h1 h2 => refHolds_any _ _ vs vt _ _ u a b c hf hok W h1 h2)
    · have e0 : pre ++ (t ++ [12]) = (pre ++ t) ++ [12] := by simp
      rw [e0] at h20 hcap hL ⊢
      have e : ((pre ++ t) ++ [12]).length = (pre ++ t).length + 1 := by simp; omega
      rw [e] at h20 hcap ⊢
      rw [val_no _ (cnt_fm hm6 N t ht)]
      exact is_no _ ao co _ n acap ccap (pre ++ t).length pre.length B off cap u a b c w hcap (by omega) hL.1 hL.last
        (fun W hW => ih t ht pre W (by omega) (by omega) (hL.front.below hW) (hA.below hW))
    · have e0 : pre ++ (x ++ (y ++ [s])) = ((pre ++ x) ++ y) ++ [s] := by simp
      rw [e0] at h20 hcap hL ⊢
      have e : (((pre ++ x) ++ y) ++ [s]).length = ((pre ++ x) ++ y).length + 1 := by simp; omega
      rw [e] at h20 hcap ⊢
      have hle : (pre ++ x).length ≤ ((pre ++ x) ++ y).length := by simp
      rw [valF_two _ h5 (cnt_fm hm6 N x hx) (cnt_fm hm6 N y hy)]
      exact is_two s h5 _ _ ao co _ n acap ccap ((pre ++ x) ++ y).length pre.length (pre ++ x).length B off cap u a b c w hcap (by omega) hL.1 hL.last
        (fun W hW => ih y hy (pre ++ x) W (by omega) (by omega) (hL.front.below hW) (hA.below hW))
        (fun W hW => ih x hx pre W (by omega) (by omega) (hL.front.front.below hW) (hA.below hW))

set_option maxHeartbeats 2000000 in
/-- True, of a right formula in a right world. -/
theorem refTrue_any (va vc : Value) (ats : List At) (d : List Int) (u a b c : Int) (hf : formFault ats d = 0) (hok : (Wd.mk u a b c).ok = true) (w : World) (hA : ReadsA w va ats) (hC : Reads w vc d) :
    Calls Tryd.prog 14 #[.agg #[va, vc], .agg #[.int .i64 u, .int .i64 a, .int .i64 b, .int .i64 c]] w fun e w' => e = .returned (.bool (valF ((Wd.mk u a b c).heldL ats) d)) ∧ Below w.heap.size w w' := by
  obtain ⟨⟨m1, m6⟩, ⟨n1, n20⟩, hgood, hsig, hcnt⟩ := formFault_zero.1 hf
  obtain ⟨N, hN⟩ := treeF hsig hcnt
  obtain ⟨ao, acap, rfl, _⟩ := hA.slice
  rcases hC with ⟨_, _, _, h0⟩ | ⟨B, off, cap, rfl, hB, _, ⟨_, hcap⟩, hcell⟩
  · rw [h0] at n1; simp at n1
  obtain ⟨w1, hw1⟩ : ∃ w1, w1 = (w.alloc (.cells #[.slice ao ats.length acap, .slice (some ⟨B, off, none⟩) d.length cap] 25)).alloc (.cells #[.int .i64 u, .int .i64 a, .int .i64 b, .int .i64 c] 28) := ⟨_, rfl⟩
  have HB1 : Hid (Below w.heap.size w w1) := by unfold Hid; rw [hw1]; exact (below_alloc1 _ _).trans ((below_alloc1 _ _).mono (by simp))
  have HI : Hid (∀ W, Below w.heap.size w W → Calls Tryd.prog 34 #[.agg #[.slice ao ats.length acap, .slice (some ⟨B, off, none⟩) d.length cap], .slice (some ⟨B, off, none⟩) d.length cap, .agg #[.int .i64 u, .int .i64 a, .int .i64 b, .int .i64 c]] W fun e w' => e = .returned (.tuple #[.bool (valF ((Wd.mk u a b c).heldL ats) d), .slice (some ⟨B, off, none⟩) 0 cap]) ∧ Below W.heap.size W w') := fun W hW =>
    is_any ats u a b c hok hgood m6 ao (some ⟨B, off, none⟩) d.length acap cap B off cap N d hN [] W n20 hcap ((show Lies w B off d from ⟨hB, hcell⟩).below hW) (hA.below hW)
  obtain ⟨V, hV⟩ : ∃ V, V = valF ((Wd.mk u a b c).heldL ats) d := ⟨_, rfl⟩
  rw [← hV] at HI ⊢
  obtain ⟨m, hm⟩ : ∃ m, m = ats.length := ⟨_, rfl⟩
  obtain ⟨n, hn⟩ : ∃ n, n = d.length := ⟨_, rfl⟩
  rw [← hm, ← hn] at HI hw1 ⊢
  clear hV hm hn hA hcell hf hok m1 m6 n1 n20 hgood hsig hcnt hN hcap hB
  go_enter Tryd.func14, Tryd.ntmps14
  go_wp2_with fail
  rw [← hw1]
  clear hw1
  go_at_call 34
  refine (HI.out _ HB1.out).mono ?_
  rintro e w2 ⟨rfl, hb⟩
  have HB2 : Hid (Below w.heap.size w w2) := HB1.out.trans (hb.mono HB1.out.size)
  clear hb
  go_wp2
  go_ret
  exact ⟨rfl, HB2.out⟩
end Go.Proofs.YtgkgbpbohgklhafDoor
