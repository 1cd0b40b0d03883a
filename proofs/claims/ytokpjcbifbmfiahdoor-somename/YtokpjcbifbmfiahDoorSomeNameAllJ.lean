/-
  Proved: vennlaw4.SomeName returns true, of any name, any number and any world, where some's functions answer as chapter 15 says; what was in memory is as it was (the walk that the statement leans on).
-/
import Derived.Test.YtokpjcbifbmfiahDoorSomeNameWalkJ
import Derived.Test.YtokpjcbifbmfiahDoorLibSM16
namespace Go.Proofs.YtokpjcbifbmfiahDoor
open Go.ChangeShapes Go.WideShapes Go.ChangeAt Go.RowKit
set_option maxRecDepth 100000

theorem put_val {D : Wd} {k : Nat} (hk : k < 3) (s : Int) : (D.put k s).val [(k : Int)] = s := by
  rcases (by omega : k = 0 ∨ k = 1 ∨ k = 2) with rfl | rfl | rfl <;> rfl
theorem name_fault {k : Nat} (hk : k < 3) : faultN [(k : Int)] = 0 := by
  rcases (by omega : k = 0 ∨ k = 1 ∨ k = 2) with rfl | rfl | rfl <;> decide
theorem many_range {k : Nat} {n : Int} (h : formFault (manyA (k : Int) n) [0] = 0) : -20 ≤ n ∧ n ≤ 20 := by
  have ha : atomFault 3 [(k : Int)] [] n = 0 := (formFault_zero.1 h).2.2.1 ⟨3, [(k : Int)], [], n⟩ (by simp [manyA])
  have hr := (atomFault_zero.1 ha).2.2.2
  have h1 : -(20 : Int) ≤ n := hr.1
  have h2 : n ≤ (20 : Int) := hr.2
  exact ⟨h1, h2⟩
theorem name_with {k : Nat} (hk : k < 3) {n : Int} (h0 : -20 ≤ n) (h1 : n ≤ 20) {D : Wd} (hok : D.ok = true) {s : Nat} (hs : s < setsN D.u) : withB (manyA (k : Int) n) [0] k D s = decide (n ≤ pcN (s : Int)) := by
  have hu := ok_u hok
  unfold withB manyA
  rw [least_is (name_fault hk) h0 h1 (wput_ok hok k ((set_ok hu.1 hu.2).2 hs)), put_val hk]
theorem name_some {k : Nat} (hk : k < 3) {n : Int} {D : Wd} (h : someFault (manyA (k : Int) n) [0] (k : Int) D = 0) : someB (manyA (k : Int) n) [0] (k : Int) D = decide (n ≤ D.u) := by
  obtain ⟨hf, hn, hok⟩ := some_zero.1 h
  obtain ⟨h0, h1⟩ := many_range hf
  have hu := ok_u hok
  rw [Bool.eq_iff_iff, someB_iff h, Int.toNat_natCast, decide_eq_true_iff]
  constructor
  · rintro ⟨s, hs, g⟩
    rw [name_with hk h0 h1 hok hs] at g
    have := of_decide_eq_true g
    have := size_le ((set_ok hu.1 hu.2).2 hs)
    omega
  · intro g
    obtain ⟨u, hu'⟩ := Int.eq_ofNat_of_zero_le hu.1
    have hall : okB D.u (allN D.u) = true := okB_iff.2 ⟨hu.1, hu.2, (allN_le hu.1 hu.2).1, Int.le_refl _⟩
    obtain ⟨s, hs⟩ := Int.eq_ofNat_of_zero_le (okB_lt hall).2.2.1
    rw [hs] at hall
    have hs' := (set_ok hu.1 hu.2).1 hall
    refine ⟨s, hs', ?_⟩
    rw [name_with hk h0 h1 hok hs', ← hs]
    refine decide_eq_true ?_
    rw [hu'] at g ⊢
    rw [size_all u (by omega)]
    exact g
theorem name_each {k : Nat} (hk : k < 3) {D : Wd} (hok : D.ok = true) : someFault (manyA (k : Int) 0) [0] (k : Int) D = 0 ∧ eachW (manyA (k : Int) 0) [0] (k : Int) D = true := by
  have hz : someFault (manyA (k : Int) 0) [0] (k : Int) D = 0 := some_zero.2 ⟨alone_fault (many_fault (name_fault hk) (Or.inl rfl) (by decide) (by decide)), ⟨by omega, by omega⟩, hok⟩
  refine ⟨hz, (eachW_iff hz).2 fun s hs => ?_⟩
  rw [Int.toNat_natCast, name_with hk (by decide) (by decide) hok hs]
  exact decide_eq_true (pcN_le _).1

theorem someName_of (name n wu wa wb wc : Int) (w : World)
    (cIs : ∀ (va vc : Value) (ats : List At) (c : List Int) (name : Int) (D : Wd) (W : World), Below w.heap.size w W → ReadsA W va ats → Reads W vc c → Calls Tryd.prog 14 #[.agg #[va, vc], .int .i64 name, .agg (arrW D)] W fun e w' => e = .returned (.tuple #[.bool (someB ats c name D), errV (someFault ats c name D)]) ∧ Below W.heap.size W w')
    (cEc : ∀ (va vc : Value) (ats : List At) (c : List Int) (name : Int) (D : Wd) (W : World), Below w.heap.size w W → ReadsA W va ats → Reads W vc c → Calls Tryd.prog 16 #[.agg #[va, vc], .int .i64 name, .agg (arrW D)] W fun e w' => e = .returned (.tuple #[.bool (eachW ats c name D), errV (someFault ats c name D)]) ∧ Below W.heap.size W w') :
    Calls Tryd.prog 6 #[.int .i64 name, .int .i64 n, .agg #[.int .i64 wu, .int .i64 wa, .int .i64 wb, .int .i64 wc]] w fun e w' => e = .returned (.bool true) ∧ Below w.heap.size w w' := by
  obtain ⟨D, hD⟩ : ∃ D, D = Wd.mk wu wa wb wc := ⟨_, rfl⟩
  obtain ⟨rfl, rfl, rfl, rfl⟩ : wu = D.u ∧ wa = D.a ∧ wb = D.b ∧ wc = D.c := by rw [hD]; exact ⟨rfl, rfl, rfl, rfl⟩
  clear hD
  have hAt : ∀ (m : Int) W, Calls Tryd.prog 7 #[.int .i64 name, .int .i64 m] W fun e w' => ∃ b1 b2, e = .returned (.agg #[.slice (some ⟨b1, 0, none⟩) 1 1, .slice (some ⟨b2, 0, none⟩) 1 1]) ∧ ReadsA w' (.slice (some ⟨b1, 0, none⟩) 1 1) (manyA name m) ∧ Reads w' (.slice (some ⟨b2, 0, none⟩) 1 1) [0] ∧ Below W.heap.size W w' := fun m W => atomOf_any name m W
  refine someName_in name n D (someB (manyA name n) [0] name D) (errV (someFault (manyA name n) [0] name D)) 5 w (fun W hW => ?_) (fun W hW => ?_) (fun hn hE W hW => ?_) (fun hn hE => ?_) ?_
  · refine (hAt n W).mono ?_
    rintro e w' ⟨b1, b2, rfl, hA, hC, hb⟩
    exact ⟨b1, b2, rfl, fun W' hW' => cIs _ _ _ _ name D W' (hW.trans ((hb.trans (hW'.mono hb.size)).mono hW.size)) (hA.below hW') (hC.below hW'), hb⟩
  · have h := cEc (.slice none 0 0) (.slice none 0 0) [] [] 0 D W hW (Or.inl ⟨none, 0, rfl, rfl⟩) (Or.inl ⟨none, 0, rfl, rfl⟩)
    have hf : formFault [] [] = 5 := by decide
    have e1 : someFault [] [] 0 D = 5 := by unfold someFault; rw [hf, if_neg (by decide)]
    have e2 : eachW [] [] 0 D = false := by unfold eachW; rw [if_neg (by rw [e1]; decide)]
    rw [e1, e2] at h
    exact h
  · have hz : someFault (manyA name n) [0] name D = 0 := by
      by_cases hz : someFault (manyA name n) [0] name D = 0
      · exact hz
      · rw [errV_no hz] at hE; cases hE
    obtain ⟨k, rfl⟩ := Int.eq_ofNat_of_zero_le hn.1
    obtain ⟨e1, e2⟩ := name_each (k := k) (by omega) (some_zero.1 hz).2.2
    refine (hAt 0 W).mono ?_
    rintro e w' ⟨b1, b2, rfl, hA, hC, hb⟩
    refine ⟨b1, b2, rfl, fun W' hW' => ?_, hb⟩
    have h := cEc _ _ _ _ (k : Int) D W' (hW.trans ((hb.trans (hW'.mono hb.size)).mono hW.size)) (hA.below hW') (hC.below hW')
    rw [e1, e2] at h
    exact h
  · have hz : someFault (manyA name n) [0] name D = 0 := by
      by_cases hz : someFault (manyA name n) [0] name D = 0
      · exact hz
      · rw [errV_no hz] at hE; cases hE
    obtain ⟨k, rfl⟩ := Int.eq_ofNat_of_zero_le hn.1
    exact name_some (by omega) hz
  · by_cases hz : someFault (manyA name n) [0] name D = 0
    · left; rw [hz]; rfl
    · right; exact ⟨_, errV_no hz⟩
end Go.Proofs.YtokpjcbifbmfiahDoor
