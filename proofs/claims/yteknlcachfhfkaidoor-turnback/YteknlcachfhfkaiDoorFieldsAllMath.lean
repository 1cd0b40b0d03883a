/-
  Plain facts on fields and formulas (chapter 6): whether a formula holds in a world hangs on how many things lie in each field alone. No program is read here.
-/
import Derived.Test.YteknlcachfhfkaiDoorFieldsMath
import Derived.Test.YteknlcachfhfkaiDoorFormMath
namespace Go.Proofs.YteknlcachfhfkaiDoor
open Go.RowKit

theorem none_of_size {u x : Int} (h : okB u x = true) : (x = 0 ↔ pcN x = 0) :=
  uptoSets (P := fun _ x _ => x = 0 ↔ pcN x = 0) (by decide +kernel) u x x h h
theorem same_of_less {u x y : Int} (hx : okB u x = true) (hy : okB u y = true) : (x = y ↔ lessN x y = 0 ∧ lessN y x = 0) :=
  uptoSets (P := fun _ x y => x = y ↔ lessN x y = 0 ∧ lessN y x = 0) (by decide +kernel) u x y hx hy

/-- two right worlds with as many things in each field. -/
structure Alike (w w' : Wd) : Prop where
  ok : w.ok = true
  ok' : w'.ok = true
  fc : ∀ f, f < 8 → w'.fc w'.u.toNat f = w.fc w.u.toNat f

theorem Alike.size {w w' : Wd} (h : Alike w w') {n : Nat} {t : List Int} (ht : isTm n t) : pcN (w'.val t) = pcN (w.val t) := size_same h.ok h.ok' h.fc ht
theorem Alike.less {w w' : Wd} (h : Alike w w') {n m : Nat} {s t : List Int} (hs : isTm n s) (ht : isTm m t) : (lessN (w'.val s) (w'.val t) = 0 ↔ lessN (w.val s) (w.val t) = 0) := by
  have e : ∀ v : Wd, v.val (s ++ (t ++ [7])) = lessN (v.val s) (v.val t) := fun v => by rw [val_bin v (by omega) (by omega) hs ht, doN7]
  have hn : isTm (n + m + 1) (s ++ (t ++ [7])) := Or.inr (Or.inr ⟨7, s, t, by omega, by omega, isTm_mono (by omega) hs, isTm_mono (by omega) ht, rfl⟩)
  rw [← e, ← e, none_of_size (ok_val h.ok' _), none_of_size (ok_val h.ok _), h.size hn]
theorem one_term {t : List Int} (h : faultN t = 0) : ∃ n, isTm n t := tree t (fault_zero.1 h).2.2.1 (fault_zero.1 h).2.2.2
theorem Alike.holds {w w' : Wd} (h : Alike w w') {k : Int} {s t : List Int} {n : Int} (hf : atomFault k s t n = 0) : w'.holds k s t n = w.holds k s t n := by
  obtain ⟨hk, hs, ht, _⟩ := atomFault_zero.1 hf
  obtain ⟨i, hi⟩ := one_term hs
  unfold Wd.holds Wd.snd saysB
  rcases five hk.1 hk.2 with rfl | rfl | rfl | rfl | rfl
  · obtain ⟨j, hj⟩ := one_term (second_reads ht (by decide))
    rw [if_pos (show secondB 1 = true by decide), if_pos rfl, if_pos (show secondB 1 = true by decide), if_pos rfl]
    exact decide_eq_decide.2 (h.less hi hj)
  · obtain ⟨j, hj⟩ := one_term (second_reads ht (by decide))
    rw [if_pos (show secondB 2 = true by decide), if_pos (show secondB 2 = true by decide), if_neg (by decide), if_pos rfl, if_neg (by decide), if_pos rfl]
    refine decide_eq_decide.2 ?_
    rw [same_of_less (ok_val h.ok' s) (ok_val h.ok' t), same_of_less (ok_val h.ok s) (ok_val h.ok t), h.less hi hj, h.less hj hi]
  · rw [if_neg (by decide), if_neg (by decide), if_pos rfl, if_neg (by decide), if_neg (by decide), if_pos rfl, h.size hi]
  · rw [if_neg (by decide), if_neg (by decide), if_neg (by decide), if_pos rfl, if_neg (by decide), if_neg (by decide), if_neg (by decide), if_pos rfl, h.size hi]
  · obtain ⟨j, hj⟩ := one_term (second_reads ht (by decide))
    rw [if_pos (show secondB 5 = true by decide), if_pos (show secondB 5 = true by decide), if_neg (by decide), if_neg (by decide), if_neg (by decide), if_neg (by decide), if_neg (by decide), if_neg (by decide), if_neg (by decide), if_neg (by decide), h.size hi, h.size hj]
theorem Alike.fault {w w' : Wd} (h : Alike w w') (ats : List At) (c : List Int) : w'.formFault ats c = w.formFault ats c := by
  unfold Wd.formFault; rw [h.ok, h.ok']
/-- a formula holds in a world just if in one with as many things in each field. -/
theorem Alike.form {w w' : Wd} (h : Alike w w') (ats : List At) (c : List Int) : w'.formIs ats c = w.formIs ats c := by
  unfold Wd.formIs
  rw [h.fault]
  by_cases hf : w.formFault ats c = 0
  · rw [if_pos hf, if_pos hf]
    obtain ⟨_, _, hall, _⟩ := formFault_zero.1 (wdForm_zero.1 hf).1
    have e : w'.heldL ats = w.heldL ats := by
      unfold Wd.heldL
      exact List.map_congr_left fun a ha => h.holds (hall a ha)
    rw [e]
  · rw [if_neg hf, if_neg hf]
/-- the world of the counts of a world is like it. -/
theorem alike_made {w : Wd} (h : w.ok = true) : Alike w (madeN (w.fc w.u.toNat) 8) :=
  ⟨h, made_ok (counts_fc h), fun _ hf => made_fc (counts_fc h) hf⟩
theorem made_things {w : Wd} (h : w.ok = true) : (madeN (w.fc w.u.toNat) 8).u = w.u := by
  rw [made_u (counts_fc h), sum_fc]
  have := (ok_u h).1
  omega
end Go.Proofs.YteknlcachfhfkaiDoor
