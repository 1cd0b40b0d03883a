/-
  Proved: vennlaw1.FieldsAll returns true, in three of six cases; what was in memory is as it was. Written by program.
-/
import Derived.Test.YtenmheenieifpacDoorFieldsAllHead
namespace Go.Proofs.YtenmheenieifpacDoor
open Go.ChangeShapes Go.WideShapes Go.ChangeAt Go.RowKit
set_option maxRecDepth 100000

set_option maxHeartbeats 8000000 in
theorem fieldsAll_BX (u a b c : Int) (N : Nat → Int) (t : List Int) (v : Value) (ao co : Option Addr) (m n acap ccap : Nat) (ats : List At) (cd : List Int) (w : World) (h : Reads w v t) (hA : ReadsA w (.slice ao m acap) ats) (hC : Reads w (.slice co n ccap) cd) (hK : KindsLaid w) (ho : (Wd.mk u a b c).ok = false) (hc : ¬ countsFault N = 0) :
    Calls Tryd.prog 7 #[.agg #[.int .i64 u, .int .i64 a, .int .i64 b, .int .i64 c], .agg #[.int .i64 (N 0), .int .i64 (N 1), .int .i64 (N 2), .int .i64 (N 3), .int .i64 (N 4), .int .i64 (N 5), .int .i64 (N 6), .int .i64 (N 7)], v, .agg #[.slice ao m acap, .slice co n ccap]] w fun e w' => e = .returned (.bool true) ∧ Below w.heap.size w w' := by
  obtain ⟨w1, hw1⟩ : ∃ w1, w1 = ((w.alloc (.cells #[.int .i64 u, .int .i64 a, .int .i64 b, .int .i64 c] 28)).alloc (.cells #[.int .i64 (N 0), .int .i64 (N 1), .int .i64 (N 2), .int .i64 (N 3), .int .i64 (N 4), .int .i64 (N 5), .int .i64 (N 6), .int .i64 (N 7)] 46)).alloc (.cells #[.slice ao m acap, .slice co n ccap] 25) := ⟨_, rfl⟩
  have HB1 : Hid (Below w.heap.size w w1) := by unfold Hid; rw [hw1]; exact ((below_alloc1 _ _).alloc (by simp) _).alloc (by simp; omega) _
  have HK0 : Hid (Blk w1 w.heap.size 28 (arrW ⟨u, a, b, c⟩)) := by unfold Hid; rw [hw1]; exact ((Blk.new _ _ _).old _).old _
  have HK1 : Hid (Blk w1 (w.heap.size + 1) 46 (arr8 N)) := by
    unfold Hid; rw [hw1]
    have := Blk.new (w.alloc (.cells #[.int .i64 u, .int .i64 a, .int .i64 b, .int .i64 c] 28)) 46 (arr8 N)
    simp only [World.size_alloc] at this
    exact this.old _
  have HK2 : Hid (Blk w1 (w.heap.size + 1 + 1) 25 #[.slice ao m acap, .slice co n ccap]) := by
    unfold Hid; rw [hw1]
    have := Blk.new ((w.alloc (.cells #[.int .i64 u, .int .i64 a, .int .i64 b, .int .i64 c] 28)).alloc (.cells #[.int .i64 (N 0), .int .i64 (N 1), .int .i64 (N 2), .int .i64 (N 3), .int .i64 (N 4), .int .i64 (N 5), .int .i64 (N 6), .int .i64 (N 7)] 46)) 25 #[.slice ao m acap, .slice co n ccap]
    simp only [World.size_alloc] at this
    exact this
  have HX : Hid (∀ W, Below w1.heap.size w1 W → BoxA W w.heap.size u a b c N (.slice ao m acap) (.slice co n ccap)) := fun W hW => boxA_of (HK0.out.below hW) (HK1.out.below hW) (HK2.out.below hW)
  have HRd : Hid (∀ W, Below w1.heap.size w1 W → Reads W v t) := fun W hW => (h.below HB1.out).below hW
  have HFo : Hid (∀ W, Below w1.heap.size w1 W → ReadsA W (.slice ao m acap) ats ∧ Reads W (.slice co n ccap) cd ∧ KindsLaid W) := fun W hW => ⟨(hA.below HB1.out).below hW, (hC.below HB1.out).below hW, (hK.below HB1.out).below hW⟩
  obtain ⟨C, hCC⟩ : ∃ C, C = (Wd.mk u a b c).cts := ⟨_, rfl⟩
  have HOf : Hid (∀ W : World, Calls Tryd.prog 17 #[.agg #[.int .i64 u, .int .i64 a, .int .i64 b, .int .i64 c]] W fun e w' => e = .returned (.tuple #[.agg #[.int .i64 (C 0), .int .i64 (C 1), .int .i64 (C 2), .int .i64 (C 3), .int .i64 (C 4), .int .i64 (C 5), .int .i64 (C 6), .int .i64 (C 7)], .iface 69 (.int .i64 1)]) ∧ Below W.heap.size W w') := fun W => by
    have := fieldsOf_any u a b c W
    rw [← hCC] at this
    have e : (Wd.mk u a b c).wrong = 1 := by unfold Wd.wrong; rw [ho]; rfl
    rw [e] at this
    exact this
  obtain ⟨M, hM⟩ : ∃ M, M = madeW N := ⟨_, rfl⟩
  obtain ⟨F, hF⟩ : ∃ F, F = countsFault N := ⟨_, rfl⟩
  have HFw : Hid (∀ W : World, Calls Tryd.prog 20 #[.agg #[.int .i64 (N 0), .int .i64 (N 1), .int .i64 (N 2), .int .i64 (N 3), .int .i64 (N 4), .int .i64 (N 5), .int .i64 (N 6), .int .i64 (N 7)]] W fun e w' => e = .returned (.tuple #[.agg #[.int .i64 M.u, .int .i64 M.a, .int .i64 M.b, .int .i64 M.c], .iface 69 (.int .i64 F)]) ∧ Below W.heap.size W w') := fun W => by
    have := fworld_any N W
    rw [← hM, ← hF] at this
    rw [show errV F = .iface 69 (.int .i64 F) by unfold errV; rw [if_neg (by rw [hF]; exact hc)]] at this
    exact this
  clear ho hc hCC hM hF h hA hC hK
  have HS1 : Hid (w1.heap.size = w.heap.size + 3) := by unfold Hid; rw [hw1]; simp
  have Hw1 : Hid (Below w1.heap.size w1 w1) := Below.refl _ _
  go_enter Tryd.func7, Tryd.ntmps7
  go_wp2_with fail
  rw [← hw1]
  clear hw1
  go_at_call 17
  refine (of_fact _).mono ?_
  rintro e k0 ⟨rfl, hb⟩
  have Hk0 : Hid (Below w1.heap.size w1 k0) := hb
  clear hb
  obtain ⟨ka, hka⟩ : ∃ ka, ka = k0.alloc (.cells #[.int .i64 0, .int .i64 0, .int .i64 1, .int .i64 1, .int .i64 0, .int .i64 0, .int .i64 0, .int .i64 0] 46) := ⟨_, rfl⟩
  have Hka : Hid (Below w1.heap.size w1 ka) := by unfold Hid; rw [hka]; exact Hk0.out.alloc Hk0.out.size _
  go_upto_region 4 with fail
  rw [← hka]
  clear hka
  obtain ⟨_, ⟨y0, y1, y2, y3, y4, y5, y6, y7⟩, _⟩ := HX.out ka Hka.out
  go_wp2_with fail
  go_at_call 20
  refine (HFw.out _).mono ?_
  rintro e k1 ⟨rfl, hb⟩
  have Hk1 : Hid (Below w1.heap.size w1 k1) := Hka.out.trans (hb.mono Hka.out.size)
  clear hb y0 y1 y2 y3 y4 y5 y6 y7
  obtain ⟨Gm, hGm⟩ : ∃ G, G = k1.heap.size := ⟨_, rfl⟩
  obtain ⟨kb, hkb⟩ : ∃ kb, kb = k1.alloc (.cells #[.int .i64 M.u, .int .i64 M.a, .int .i64 M.b, .int .i64 M.c] 28) := ⟨_, rfl⟩
  have Hkb : Hid (Below w1.heap.size w1 kb) := by unfold Hid; rw [hkb]; exact Hk1.out.alloc Hk1.out.size _
  have HMb : Hid (Blk kb Gm 28 (arrW M)) := by unfold Hid; rw [hkb, hGm]; exact Blk.new _ _ _
  go_upto_region 5 with fail
  rw [← hkb, ← hGm]
  clear hkb hGm
  go_upto_region 9 with fail
  obtain ⟨kc, hkc⟩ : ∃ kc, kc = kb := ⟨_, rfl⟩
  have Hkc : Hid (Below w1.heap.size w1 kc) := by unfold Hid; rw [hkc]; exact Hkb.out
  rw [← hkc]
  clear hkc
  obtain ⟨⟨x0, x1, x2, x3⟩, _, _⟩ := HX.out kc Hkc.out
  go_wp2_with fail
  go_at_call 17
  refine (HOf.out _).mono ?_
  rintro e k3 ⟨rfl, hb⟩
  have Hk3 : Hid (Below w1.heap.size w1 k3) := Hkc.out.trans (hb.mono Hkc.out.size)
  clear hb x0 x1 x2 x3
  obtain ⟨Gc, hGc⟩ : ∃ G, G = k3.heap.size := ⟨_, rfl⟩
  obtain ⟨kd, hkd⟩ : ∃ kd, kd = k3.alloc (.cells #[.int .i64 (C 0), .int .i64 (C 1), .int .i64 (C 2), .int .i64 (C 3), .int .i64 (C 4), .int .i64 (C 5), .int .i64 (C 6), .int .i64 (C 7)] 46) := ⟨_, rfl⟩
  have Hkd : Hid (Below w1.heap.size w1 kd) := by unfold Hid; rw [hkd]; exact Hk3.out.alloc Hk3.out.size _
  have HCd : Hid (Blk kd Gc 46 (arr8 C)) := by unfold Hid; rw [hkd, hGc]; exact Blk.new _ _ _
  go_upto_region 10 with fail
  rw [← hkd, ← hGc]
  clear hkd hGc
  go_wp2
  go_ret
  exact ⟨rfl, HB1.out.trans (Hkd.out.mono HB1.out.size)⟩

set_option maxHeartbeats 8000000 in
theorem fieldsAll_BG (u a b c : Int) (N : Nat → Int) (t : List Int) (v : Value) (ao co : Option Addr) (m n acap ccap : Nat) (ats : List At) (cd : List Int) (w : World) (h : Reads w v t) (hA : ReadsA w (.slice ao m acap) ats) (hC : Reads w (.slice co n ccap) cd) (hK : KindsLaid w) (ho : (Wd.mk u a b c).ok = true) (hc : ¬ countsFault N = 0) (hf : faultN t = 0) :
    Calls Tryd.prog 7 #[.agg #[.int .i64 u, .int .i64 a, .int .i64 b, .int .i64 c], .agg #[.int .i64 (N 0), .int .i64 (N 1), .int .i64 (N 2), .int .i64 (N 3), .int .i64 (N 4), .int .i64 (N 5), .int .i64 (N 6), .int .i64 (N 7)], v, .agg #[.slice ao m acap, .slice co n ccap]] w fun e w' => e = .returned (.bool true) ∧ Below w.heap.size w w' := by
  obtain ⟨w1, hw1⟩ : ∃ w1, w1 = ((w.alloc (.cells #[.int .i64 u, .int .i64 a, .int .i64 b, .int .i64 c] 28)).alloc (.cells #[.int .i64 (N 0), .int .i64 (N 1), .int .i64 (N 2), .int .i64 (N 3), .int .i64 (N 4), .int .i64 (N 5), .int .i64 (N 6), .int .i64 (N 7)] 46)).alloc (.cells #[.slice ao m acap, .slice co n ccap] 25) := ⟨_, rfl⟩
  have HB1 : Hid (Below w.heap.size w w1) := by unfold Hid; rw [hw1]; exact ((below_alloc1 _ _).alloc (by simp) _).alloc (by simp; omega) _
  have HK0 : Hid (Blk w1 w.heap.size 28 (arrW ⟨u, a, b, c⟩)) := by unfold Hid; rw [hw1]; exact ((Blk.new _ _ _).old _).old _
  have HK1 : Hid (Blk w1 (w.heap.size + 1) 46 (arr8 N)) := by
    unfold Hid; rw [hw1]
    have := Blk.new (w.alloc (.cells #[.int .i64 u, .int .i64 a, .int .i64 b, .int .i64 c] 28)) 46 (arr8 N)
    simp only [World.size_alloc] at this
    exact this.old _
  have HK2 : Hid (Blk w1 (w.heap.size + 1 + 1) 25 #[.slice ao m acap, .slice co n ccap]) := by
    unfold Hid; rw [hw1]
    have := Blk.new ((w.alloc (.cells #[.int .i64 u, .int .i64 a, .int .i64 b, .int .i64 c] 28)).alloc (.cells #[.int .i64 (N 0), .int .i64 (N 1), .int .i64 (N 2), .int .i64 (N 3), .int .i64 (N 4), .int .i64 (N 5), .int .i64 (N 6), .int .i64 (N 7)] 46)) 25 #[.slice ao m acap, .slice co n ccap]
    simp only [World.size_alloc] at this
    exact this
  have HX : Hid (∀ W, Below w1.heap.size w1 W → BoxA W w.heap.size u a b c N (.slice ao m acap) (.slice co n ccap)) := fun W hW => boxA_of (HK0.out.below hW) (HK1.out.below hW) (HK2.out.below hW)
  have HRd : Hid (∀ W, Below w1.heap.size w1 W → Reads W v t) := fun W hW => (h.below HB1.out).below hW
  have HFo : Hid (∀ W, Below w1.heap.size w1 W → ReadsA W (.slice ao m acap) ats ∧ Reads W (.slice co n ccap) cd ∧ KindsLaid W) := fun W hW => ⟨(hA.below HB1.out).below hW, (hC.below HB1.out).below hW, (hK.below HB1.out).below hW⟩
  obtain ⟨C, hCC⟩ : ∃ C, C = (Wd.mk u a b c).cts := ⟨_, rfl⟩
  have HOf : Hid (∀ W : World, Calls Tryd.prog 17 #[.agg #[.int .i64 u, .int .i64 a, .int .i64 b, .int .i64 c]] W fun e w' => e = .returned (.tuple #[.agg #[.int .i64 (C 0), .int .i64 (C 1), .int .i64 (C 2), .int .i64 (C 3), .int .i64 (C 4), .int .i64 (C 5), .int .i64 (C 6), .int .i64 (C 7)], .nilIface]) ∧ Below W.heap.size W w') := fun W => by
    have := fieldsOf_any u a b c W
    rw [← hCC] at this
    have e : (Wd.mk u a b c).wrong = 0 := by unfold Wd.wrong; rw [ho]; rfl
    rw [e] at this
    exact this
  obtain ⟨M, hM⟩ : ∃ M, M = madeW N := ⟨_, rfl⟩
  obtain ⟨F, hF⟩ : ∃ F, F = countsFault N := ⟨_, rfl⟩
  have HFw : Hid (∀ W : World, Calls Tryd.prog 20 #[.agg #[.int .i64 (N 0), .int .i64 (N 1), .int .i64 (N 2), .int .i64 (N 3), .int .i64 (N 4), .int .i64 (N 5), .int .i64 (N 6), .int .i64 (N 7)]] W fun e w' => e = .returned (.tuple #[.agg #[.int .i64 M.u, .int .i64 M.a, .int .i64 M.b, .int .i64 M.c], .iface 69 (.int .i64 F)]) ∧ Below W.heap.size W w') := fun W => by
    have := fworld_any N W
    rw [← hM, ← hF] at this
    rw [show errV F = .iface 69 (.int .i64 F) by unfold errV; rw [if_neg (by rw [hF]; exact hc)]] at this
    exact this
  have eC : C = (Wd.mk u a b c).fc u.toNat := by rw [hCC]; unfold Wd.cts; rw [if_pos ho]
  have hCf : countsFault C = 0 := by rw [eC]; exact counts_fc ho
  obtain ⟨Y, hY⟩ : ∃ Y, Y = madeN C 8 := ⟨_, rfl⟩
  have hYu : Y.u = u := by rw [hY, eC]; exact made_things ho
  have hAl : Alike (Wd.mk u a b c) (Wd.mk u Y.a Y.b Y.c) := by
    have e : Wd.mk u Y.a Y.b Y.c = madeN ((Wd.mk u a b c).fc (Wd.mk u a b c).u.toNat) 8 := by
      show _ = madeN ((Wd.mk u a b c).fc u.toNat) 8
      rw [← eC, ← hY, ← hYu]
    rw [e]; exact alike_made ho
  have HFy : Hid (∀ W : World, Calls Tryd.prog 20 #[.agg #[.int .i64 (C 0), .int .i64 (C 1), .int .i64 (C 2), .int .i64 (C 3), .int .i64 (C 4), .int .i64 (C 5), .int .i64 (C 6), .int .i64 (C 7)]] W fun e w' => e = .returned (.tuple #[.agg #[.int .i64 u, .int .i64 Y.a, .int .i64 Y.b, .int .i64 Y.c], .nilIface]) ∧ Below W.heap.size W w') := fun W => by
    have := fworld_right C W hCf
    rw [← hY] at this
    have e : arrW Y = #[.int .i64 u, .int .i64 Y.a, .int .i64 Y.b, .int .i64 Y.c] := by unfold arrW; rw [hYu]
    rw [e] at this
    exact this
  obtain ⟨Xf, hXf⟩ : ∃ X, X = (Wd.mk u a b c).formIs ats cd := ⟨_, rfl⟩
  obtain ⟨Ef, hEf⟩ : ∃ E, E = errV ((Wd.mk u a b c).formFault ats cd) := ⟨_, rfl⟩
  have HHo : Hid (∀ W : World, Below w1.heap.size w1 W → Calls Tryd.prog 8 #[.agg #[.slice ao m acap, .slice co n ccap], .agg #[.int .i64 u, .int .i64 a, .int .i64 b, .int .i64 c]] W fun e w' => e = .returned (.tuple #[.bool Xf, Ef]) ∧ Below W.heap.size W w') := fun W hW => by
    rw [hXf, hEf]; exact fholds_any _ _ ats cd u a b c W (HFo.out W hW).1 (HFo.out W hW).2.1 (HFo.out W hW).2.2
  have HHy : Hid (∀ W : World, Below w1.heap.size w1 W → Calls Tryd.prog 8 #[.agg #[.slice ao m acap, .slice co n ccap], .agg #[.int .i64 u, .int .i64 Y.a, .int .i64 Y.b, .int .i64 Y.c]] W fun e w' => e = .returned (.tuple #[.bool Xf, Ef]) ∧ Below W.heap.size W w') := fun W hW => by
    have := fholds_any _ _ ats cd u Y.a Y.b Y.c W (HFo.out W hW).1 (HFo.out W hW).2.1 (HFo.out W hW).2.2
    rw [hAl.form, hAl.fault, ← hXf, ← hEf] at this
    exact this
  have hEd : Ef = .nilIface ∨ ∃ x, Ef = .iface 69 x := by
    rw [hEf]; unfold errV
    split
    · exact Or.inl rfl
    · exact Or.inr ⟨_, rfl⟩
  obtain ⟨V, hV⟩ : ∃ V, V = (Wd.mk u a b c).answer t := ⟨_, rfl⟩
  have eV : V = (Wd.mk u a b c).val t := by rw [hV]; unfold Wd.answer; rw [if_pos hf, if_pos ho]
  have HVa : Hid (∀ W : World, Below w1.heap.size w1 W → Calls Tryd.prog 26 #[v, .agg #[.int .i64 u, .int .i64 a, .int .i64 b, .int .i64 c]] W fun e w' => e = .returned (.tuple #[.int .i64 V, .nilIface]) ∧ Below W.heap.size W w') := fun W hW => by
    have := value_any t v u a b c W (HRd.out W hW)
    have e : (Wd.mk u a b c).fault t = 0 := by unfold Wd.fault; rw [if_pos hf, if_pos ho]
    rw [← hV, e] at this
    exact this
  have hVo : okB u V = true := by rw [eV]; exact ok_val ho t
  obtain ⟨Q, hQ⟩ : ∃ Q, Q = pcN V := ⟨_, rfl⟩
  have HSi : Hid (∀ W : World, Calls Tryd.prog 27 #[.int .i64 u, .int .i64 V] W fun e w' => e = .returned (.tuple #[.int .i64 Q, .nilIface]) ∧ W = w') := fun W => by
    rw [hQ]; exact size_ok u V hVo W
  have HCt : Hid (∀ W : World, Below w1.heap.size w1 W → Calls Tryd.prog 25 #[v, .agg #[.int .i64 (C 0), .int .i64 (C 1), .int .i64 (C 2), .int .i64 (C 3), .int .i64 (C 4), .int .i64 (C 5), .int .i64 (C 6), .int .i64 (C 7)]] W fun e w' => e = .returned (.tuple #[.int .i64 Q, .nilIface]) ∧ Below W.heap.size W w') := fun W hW => by
    have := count_any t v C W (HRd.out W hW)
    have e1 : countFault t C = 0 := by unfold countFault; rw [if_pos hf, hCf]
    have e2 : countN t C = Q := by
      obtain ⟨i, hi⟩ := one_term hf
      unfold countN; rw [if_pos e1, hQ, eV, eC]; exact (size_fields ho hi).symm
    rw [e1, e2] at this
    exact this
  clear hQ hVo eV
  clear hV hEf hXf hAl hYu hY hCf eC hf
  clear ho hc hCC hM hF h hA hC hK
  have HS1 : Hid (w1.heap.size = w.heap.size + 3) := by unfold Hid; rw [hw1]; simp
  have Hw1 : Hid (Below w1.heap.size w1 w1) := Below.refl _ _
  go_enter Tryd.func7, Tryd.ntmps7
  go_wp2_with fail
  rw [← hw1]
  clear hw1
  go_at_call 17
  refine (of_fact _).mono ?_
  rintro e k0 ⟨rfl, hb⟩
  have Hk0 : Hid (Below w1.heap.size w1 k0) := hb
  clear hb
  obtain ⟨ka, hka⟩ : ∃ ka, ka = k0.alloc (.cells #[.int .i64 0, .int .i64 0, .int .i64 1, .int .i64 1, .int .i64 0, .int .i64 0, .int .i64 0, .int .i64 0] 46) := ⟨_, rfl⟩
  have Hka : Hid (Below w1.heap.size w1 ka) := by unfold Hid; rw [hka]; exact Hk0.out.alloc Hk0.out.size _
  go_upto_region 4 with fail
  rw [← hka]
  clear hka
  obtain ⟨_, ⟨y0, y1, y2, y3, y4, y5, y6, y7⟩, _⟩ := HX.out ka Hka.out
  go_wp2_with fail
  go_at_call 20
  refine (HFw.out _).mono ?_
  rintro e k1 ⟨rfl, hb⟩
  have Hk1 : Hid (Below w1.heap.size w1 k1) := Hka.out.trans (hb.mono Hka.out.size)
  clear hb y0 y1 y2 y3 y4 y5 y6 y7
  obtain ⟨Gm, hGm⟩ : ∃ G, G = k1.heap.size := ⟨_, rfl⟩
  obtain ⟨kb, hkb⟩ : ∃ kb, kb = k1.alloc (.cells #[.int .i64 M.u, .int .i64 M.a, .int .i64 M.b, .int .i64 M.c] 28) := ⟨_, rfl⟩
  have Hkb : Hid (Below w1.heap.size w1 kb) := by unfold Hid; rw [hkb]; exact Hk1.out.alloc Hk1.out.size _
  have HMb : Hid (Blk kb Gm 28 (arrW M)) := by unfold Hid; rw [hkb, hGm]; exact Blk.new _ _ _
  go_upto_region 5 with fail
  rw [← hkb, ← hGm]
  clear hkb hGm
  go_upto_region 9 with fail
  obtain ⟨kc, hkc⟩ : ∃ kc, kc = kb := ⟨_, rfl⟩
  have Hkc : Hid (Below w1.heap.size w1 kc) := by unfold Hid; rw [hkc]; exact Hkb.out
  rw [← hkc]
  clear hkc
  obtain ⟨⟨x0, x1, x2, x3⟩, _, _⟩ := HX.out kc Hkc.out
  go_wp2_with fail
  go_at_call 17
  refine (HOf.out _).mono ?_
  rintro e k3 ⟨rfl, hb⟩
  have Hk3 : Hid (Below w1.heap.size w1 k3) := Hkc.out.trans (hb.mono Hkc.out.size)
  clear hb x0 x1 x2 x3
  obtain ⟨Gc, hGc⟩ : ∃ G, G = k3.heap.size := ⟨_, rfl⟩
  obtain ⟨kd, hkd⟩ : ∃ kd, kd = k3.alloc (.cells #[.int .i64 (C 0), .int .i64 (C 1), .int .i64 (C 2), .int .i64 (C 3), .int .i64 (C 4), .int .i64 (C 5), .int .i64 (C 6), .int .i64 (C 7)] 46) := ⟨_, rfl⟩
  have Hkd : Hid (Below w1.heap.size w1 kd) := by unfold Hid; rw [hkd]; exact Hk3.out.alloc Hk3.out.size _
  have HCd : Hid (Blk kd Gc 46 (arr8 C)) := by unfold Hid; rw [hkd, hGc]; exact Blk.new _ _ _
  go_upto_region 10 with fail
  rw [← hkd, ← hGc]
  clear hkd hGc
  obtain ⟨r0, r1, r2, r3, r4, r5, r6, r7⟩ := HCd.out.cells8
  go_wp2_with fail
  go_at_call 20
  refine (HFy.out _).mono ?_
  rintro e k4 ⟨rfl, hb⟩
  have Hk4 : Hid (Below w1.heap.size w1 k4) := Hkd.out.trans (hb.mono Hkd.out.size)
  have HC4 : Hid (Blk k4 Gc 46 (arr8 C)) := HCd.out.below hb
  clear hb r0 r1 r2 r3 r4 r5 r6 r7
  obtain ⟨Gy, hGy⟩ : ∃ G, G = k4.heap.size := ⟨_, rfl⟩
  obtain ⟨ke, hke⟩ : ∃ ke, ke = k4.alloc (.cells #[.int .i64 u, .int .i64 Y.a, .int .i64 Y.b, .int .i64 Y.c] 28) := ⟨_, rfl⟩
  have Hke : Hid (Below w1.heap.size w1 ke) := by unfold Hid; rw [hke]; exact Hk4.out.alloc Hk4.out.size _
  have HCe : Hid (Blk ke Gc 46 (arr8 C)) := by unfold Hid; rw [hke]; exact HC4.out.old _
  have HYe : Hid (Blk ke Gy 28 (arrW ⟨u, Y.a, Y.b, Y.c⟩)) := by unfold Hid; rw [hke, hGy]; exact Blk.new _ _ _
  go_upto_region 13 with fail
  rw [← hke, ← hGy]
  clear hke hGy
  have HYc : Hid (∀ W, Blk W Gy 28 (arrW ⟨u, Y.a, Y.b, Y.c⟩) → W.cell? ⟨Gy, 0, none⟩ = some (.int .i64 u) ∧ W.cell? ⟨Gy, 1, none⟩ = some (.int .i64 Y.a) ∧ W.cell? ⟨Gy, 2, none⟩ = some (.int .i64 Y.b) ∧ W.cell? ⟨Gy, 3, none⟩ = some (.int .i64 Y.c)) := fun W h => h.cells4
  obtain ⟨r0, r1, r2, r3⟩ := HYc.out ke HYe.out
  obtain ⟨⟨x0, x1, x2, x3⟩, _, _⟩ := HX.out ke Hke.out
  go_wp2_with fail
  go_at_call 26
  refine (HVa.out _ Hke.out).mono ?_
  rintro e k5 ⟨rfl, hb⟩
  have Hk5 : Hid (Below w1.heap.size w1 k5) := Hke.out.trans (hb.mono Hke.out.size)
  have HC5 : Hid (Blk k5 Gc 46 (arr8 C)) := HCe.out.below hb
  have HY5 : Hid (Blk k5 Gy 28 (arrW ⟨u, Y.a, Y.b, Y.c⟩)) := HYe.out.below hb
  clear hb r0 r1 r2 r3 x0 x1 x2 x3
  obtain ⟨⟨x0, x1, x2, x3⟩, _, _⟩ := HX.out k5 Hk5.out
  go_wp2_with fail
  go_at_call 27
  refine (HSi.out _).mono ?_
  rintro e w' ⟨rfl, rfl⟩
  clear x0 x1 x2 x3
  obtain ⟨r0, r1, r2, r3, r4, r5, r6, r7⟩ := HC5.out.cells8
  go_wp2_with fail
  go_at_call 25
  refine (HCt.out _ Hk5.out).mono ?_
  rintro e k6 ⟨rfl, hb⟩
  have Hk6 : Hid (Below w1.heap.size w1 k6) := Hk5.out.trans (hb.mono Hk5.out.size)
  have HY6 : Hid (Blk k6 Gy 28 (arrW ⟨u, Y.a, Y.b, Y.c⟩)) := HY5.out.below hb
  clear hb r0 r1 r2 r3 r4 r5 r6 r7
  obtain ⟨⟨x0, x1, x2, x3⟩, _, ⟨z0, z1⟩⟩ := HX.out k6 Hk6.out
  go_wp2_with fail
  go_at_call 8
  refine (HHo.out _ Hk6.out).mono ?_
  rintro e k7 ⟨rfl, hb⟩
  have Hk7 : Hid (Below w1.heap.size w1 k7) := Hk6.out.trans (hb.mono Hk6.out.size)
  have HY7 : Hid (Blk k7 Gy 28 (arrW ⟨u, Y.a, Y.b, Y.c⟩)) := HY6.out.below hb
  clear hb x0 x1 x2 x3 z0 z1
  obtain ⟨r0, r1, r2, r3⟩ := HYc.out k7 HY7.out
  obtain ⟨_, _, ⟨z0, z1⟩⟩ := HX.out k7 Hk7.out
  go_wp2_with fail
  go_at_call 8
  refine (HHy.out _ Hk7.out).mono ?_
  rintro e k8 ⟨rfl, hb⟩
  have Hk8 : Hid (Below w1.heap.size w1 k8) := Hk7.out.trans (hb.mono Hk7.out.size)
  clear hb r0 r1 r2 r3 z0 z1
  have HE : Hid (Below w.heap.size w k8) := HB1.out.trans (Hk8.out.mono HB1.out.size)
  have hbb : (Xf == Xf) = true := by simp
  rcases hEd with rfl | ⟨x, rfl⟩
  all_goals
    go_wp2_with fail
    go_region
    go_wp2
    go_ret
    exact ⟨by simp, by first | exact HE.out | exact HE.out.drew⟩

set_option maxHeartbeats 8000000 in
theorem fieldsAll_BB (u a b c : Int) (N : Nat → Int) (t : List Int) (v : Value) (ao co : Option Addr) (m n acap ccap : Nat) (ats : List At) (cd : List Int) (w : World) (h : Reads w v t) (hA : ReadsA w (.slice ao m acap) ats) (hC : Reads w (.slice co n ccap) cd) (hK : KindsLaid w) (ho : (Wd.mk u a b c).ok = true) (hc : ¬ countsFault N = 0) (hf : ¬ faultN t = 0) :
    Calls Tryd.prog 7 #[.agg #[.int .i64 u, .int .i64 a, .int .i64 b, .int .i64 c], .agg #[.int .i64 (N 0), .int .i64 (N 1), .int .i64 (N 2), .int .i64 (N 3), .int .i64 (N 4), .int .i64 (N 5), .int .i64 (N 6), .int .i64 (N 7)], v, .agg #[.slice ao m acap, .slice co n ccap]] w fun e w' => e = .returned (.bool true) ∧ Below w.heap.size w w' := by
  obtain ⟨w1, hw1⟩ : ∃ w1, w1 = ((w.alloc (.cells #[.int .i64 u, .int .i64 a, .int .i64 b, .int .i64 c] 28)).alloc (.cells #[.int .i64 (N 0), .int .i64 (N 1), .int .i64 (N 2), .int .i64 (N 3), .int .i64 (N 4), .int .i64 (N 5), .int .i64 (N 6), .int .i64 (N 7)] 46)).alloc (.cells #[.slice ao m acap, .slice co n ccap] 25) := ⟨_, rfl⟩
  have HB1 : Hid (Below w.heap.size w w1) := by unfold Hid; rw [hw1]; exact ((below_alloc1 _ _).alloc (by simp) _).alloc (by simp; omega) _
  have HK0 : Hid (Blk w1 w.heap.size 28 (arrW ⟨u, a, b, c⟩)) := by unfold Hid; rw [hw1]; exact ((Blk.new _ _ _).old _).old _
  have HK1 : Hid (Blk w1 (w.heap.size + 1) 46 (arr8 N)) := by
    unfold Hid; rw [hw1]
    have := Blk.new (w.alloc (.cells #[.int .i64 u, .int .i64 a, .int .i64 b, .int .i64 c] 28)) 46 (arr8 N)
    simp only [World.size_alloc] at this
    exact this.old _
  have HK2 : Hid (Blk w1 (w.heap.size + 1 + 1) 25 #[.slice ao m acap, .slice co n ccap]) := by
    unfold Hid; rw [hw1]
    have := Blk.new ((w.alloc (.cells #[.int .i64 u, .int .i64 a, .int .i64 b, .int .i64 c] 28)).alloc (.cells #[.int .i64 (N 0), .int .i64 (N 1), .int .i64 (N 2), .int .i64 (N 3), .int .i64 (N 4), .int .i64 (N 5), .int .i64 (N 6), .int .i64 (N 7)] 46)) 25 #[.slice ao m acap, .slice co n ccap]
    simp only [World.size_alloc] at this
    exact this
  have HX : Hid (∀ W, Below w1.heap.size w1 W → BoxA W w.heap.size u a b c N (.slice ao m acap) (.slice co n ccap)) := fun W hW => boxA_of (HK0.out.below hW) (HK1.out.below hW) (HK2.out.below hW)
  have HRd : Hid (∀ W, Below w1.heap.size w1 W → Reads W v t) := fun W hW => (h.below HB1.out).below hW
  have HFo : Hid (∀ W, Below w1.heap.size w1 W → ReadsA W (.slice ao m acap) ats ∧ Reads W (.slice co n ccap) cd ∧ KindsLaid W) := fun W hW => ⟨(hA.below HB1.out).below hW, (hC.below HB1.out).below hW, (hK.below HB1.out).below hW⟩
  obtain ⟨C, hCC⟩ : ∃ C, C = (Wd.mk u a b c).cts := ⟨_, rfl⟩
  have HOf : Hid (∀ W : World, Calls Tryd.prog 17 #[.agg #[.int .i64 u, .int .i64 a, .int .i64 b, .int .i64 c]] W fun e w' => e = .returned (.tuple #[.agg #[.int .i64 (C 0), .int .i64 (C 1), .int .i64 (C 2), .int .i64 (C 3), .int .i64 (C 4), .int .i64 (C 5), .int .i64 (C 6), .int .i64 (C 7)], .nilIface]) ∧ Below W.heap.size W w') := fun W => by
    have := fieldsOf_any u a b c W
    rw [← hCC] at this
    have e : (Wd.mk u a b c).wrong = 0 := by unfold Wd.wrong; rw [ho]; rfl
    rw [e] at this
    exact this
  obtain ⟨M, hM⟩ : ∃ M, M = madeW N := ⟨_, rfl⟩
  obtain ⟨F, hF⟩ : ∃ F, F = countsFault N := ⟨_, rfl⟩
  have HFw : Hid (∀ W : World, Calls Tryd.prog 20 #[.agg #[.int .i64 (N 0), .int .i64 (N 1), .int .i64 (N 2), .int .i64 (N 3), .int .i64 (N 4), .int .i64 (N 5), .int .i64 (N 6), .int .i64 (N 7)]] W fun e w' => e = .returned (.tuple #[.agg #[.int .i64 M.u, .int .i64 M.a, .int .i64 M.b, .int .i64 M.c], .iface 69 (.int .i64 F)]) ∧ Below W.heap.size W w') := fun W => by
    have := fworld_any N W
    rw [← hM, ← hF] at this
    rw [show errV F = .iface 69 (.int .i64 F) by unfold errV; rw [if_neg (by rw [hF]; exact hc)]] at this
    exact this
  have eC : C = (Wd.mk u a b c).fc u.toNat := by rw [hCC]; unfold Wd.cts; rw [if_pos ho]
  have hCf : countsFault C = 0 := by rw [eC]; exact counts_fc ho
  obtain ⟨Y, hY⟩ : ∃ Y, Y = madeN C 8 := ⟨_, rfl⟩
  have hYu : Y.u = u := by rw [hY, eC]; exact made_things ho
  have hAl : Alike (Wd.mk u a b c) (Wd.mk u Y.a Y.b Y.c) := by
    have e : Wd.mk u Y.a Y.b Y.c = madeN ((Wd.mk u a b c).fc (Wd.mk u a b c).u.toNat) 8 := by
      show _ = madeN ((Wd.mk u a b c).fc u.toNat) 8
      rw [← eC, ← hY, ← hYu]
    rw [e]; exact alike_made ho
  have HFy : Hid (∀ W : World, Calls Tryd.prog 20 #[.agg #[.int .i64 (C 0), .int .i64 (C 1), .int .i64 (C 2), .int .i64 (C 3), .int .i64 (C 4), .int .i64 (C 5), .int .i64 (C 6), .int .i64 (C 7)]] W fun e w' => e = .returned (.tuple #[.agg #[.int .i64 u, .int .i64 Y.a, .int .i64 Y.b, .int .i64 Y.c], .nilIface]) ∧ Below W.heap.size W w') := fun W => by
    have := fworld_right C W hCf
    rw [← hY] at this
    have e : arrW Y = #[.int .i64 u, .int .i64 Y.a, .int .i64 Y.b, .int .i64 Y.c] := by unfold arrW; rw [hYu]
    rw [e] at this
    exact this
  obtain ⟨Xf, hXf⟩ : ∃ X, X = (Wd.mk u a b c).formIs ats cd := ⟨_, rfl⟩
  obtain ⟨Ef, hEf⟩ : ∃ E, E = errV ((Wd.mk u a b c).formFault ats cd) := ⟨_, rfl⟩
  have HHo : Hid (∀ W : World, Below w1.heap.size w1 W → Calls Tryd.prog 8 #[.agg #[.slice ao m acap, .slice co n ccap], .agg #[.int .i64 u, .int .i64 a, .int .i64 b, .int .i64 c]] W fun e w' => e = .returned (.tuple #[.bool Xf, Ef]) ∧ Below W.heap.size W w') := fun W hW => by
    rw [hXf, hEf]; exact fholds_any _ _ ats cd u a b c W (HFo.out W hW).1 (HFo.out W hW).2.1 (HFo.out W hW).2.2
  have HHy : Hid (∀ W : World, Below w1.heap.size w1 W → Calls Tryd.prog 8 #[.agg #[.slice ao m acap, .slice co n ccap], .agg #[.int .i64 u, .int .i64 Y.a, .int .i64 Y.b, .int .i64 Y.c]] W fun e w' => e = .returned (.tuple #[.bool Xf, Ef]) ∧ Below W.heap.size W w') := fun W hW => by
    have := fholds_any _ _ ats cd u Y.a Y.b Y.c W (HFo.out W hW).1 (HFo.out W hW).2.1 (HFo.out W hW).2.2
    rw [hAl.form, hAl.fault, ← hXf, ← hEf] at this
    exact this
  have hEd : Ef = .nilIface ∨ ∃ x, Ef = .iface 69 x := by
    rw [hEf]; unfold errV
    split
    · exact Or.inl rfl
    · exact Or.inr ⟨_, rfl⟩
  obtain ⟨V, hV⟩ : ∃ V, V = (Wd.mk u a b c).answer t := ⟨_, rfl⟩
  obtain ⟨E, hE⟩ : ∃ E, E = faultN t := ⟨_, rfl⟩
  have HVa : Hid (∀ W : World, Below w1.heap.size w1 W → Calls Tryd.prog 26 #[v, .agg #[.int .i64 u, .int .i64 a, .int .i64 b, .int .i64 c]] W fun e w' => e = .returned (.tuple #[.int .i64 V, .iface 69 (.int .i64 E)]) ∧ Below W.heap.size W w') := fun W hW => by
    have := value_any t v u a b c W (HRd.out W hW)
    have e : (Wd.mk u a b c).fault t = E := by unfold Wd.fault; rw [if_neg hf, hE]
    rw [← hV, e, show errV E = .iface 69 (.int .i64 E) by unfold errV; rw [if_neg (by rw [hE]; exact hf)]] at this
    exact this
  clear hE
  clear hV hEf hXf hAl hYu hY hCf eC hf
  clear ho hc hCC hM hF h hA hC hK
  have HS1 : Hid (w1.heap.size = w.heap.size + 3) := by unfold Hid; rw [hw1]; simp
  have Hw1 : Hid (Below w1.heap.size w1 w1) := Below.refl _ _
  go_enter Tryd.func7, Tryd.ntmps7
  go_wp2_with fail
  rw [← hw1]
  clear hw1
  go_at_call 17
  refine (of_fact _).mono ?_
  rintro e k0 ⟨rfl, hb⟩
  have Hk0 : Hid (Below w1.heap.size w1 k0) := hb
  clear hb
  obtain ⟨ka, hka⟩ : ∃ ka, ka = k0.alloc (.cells #[.int .i64 0, .int .i64 0, .int .i64 1, .int .i64 1, .int .i64 0, .int .i64 0, .int .i64 0, .int .i64 0] 46) := ⟨_, rfl⟩
  have Hka : Hid (Below w1.heap.size w1 ka) := by unfold Hid; rw [hka]; exact Hk0.out.alloc Hk0.out.size _
  go_upto_region 4 with fail
  rw [← hka]
  clear hka
  obtain ⟨_, ⟨y0, y1, y2, y3, y4, y5, y6, y7⟩, _⟩ := HX.out ka Hka.out
  go_wp2_with fail
  go_at_call 20
  refine (HFw.out _).mono ?_
  rintro e k1 ⟨rfl, hb⟩
  have Hk1 : Hid (Below w1.heap.size w1 k1) := Hka.out.trans (hb.mono Hka.out.size)
  clear hb y0 y1 y2 y3 y4 y5 y6 y7
  obtain ⟨Gm, hGm⟩ : ∃ G, G = k1.heap.size := ⟨_, rfl⟩
  obtain ⟨kb, hkb⟩ : ∃ kb, kb = k1.alloc (.cells #[.int .i64 M.u, .int .i64 M.a, .int .i64 M.b, .int .i64 M.c] 28) := ⟨_, rfl⟩
  have Hkb : Hid (Below w1.heap.size w1 kb) := by unfold Hid; rw [hkb]; exact Hk1.out.alloc Hk1.out.size _
  have HMb : Hid (Blk kb Gm 28 (arrW M)) := by unfold Hid; rw [hkb, hGm]; exact Blk.new _ _ _
  go_upto_region 5 with fail
  rw [← hkb, ← hGm]
  clear hkb hGm
  go_upto_region 9 with fail
  obtain ⟨kc, hkc⟩ : ∃ kc, kc = kb := ⟨_, rfl⟩
  have Hkc : Hid (Below w1.heap.size w1 kc) := by unfold Hid; rw [hkc]; exact Hkb.out
  rw [← hkc]
  clear hkc
  obtain ⟨⟨x0, x1, x2, x3⟩, _, _⟩ := HX.out kc Hkc.out
  go_wp2_with fail
  go_at_call 17
  refine (HOf.out _).mono ?_
  rintro e k3 ⟨rfl, hb⟩
  have Hk3 : Hid (Below w1.heap.size w1 k3) := Hkc.out.trans (hb.mono Hkc.out.size)
  clear hb x0 x1 x2 x3
  obtain ⟨Gc, hGc⟩ : ∃ G, G = k3.heap.size := ⟨_, rfl⟩
  obtain ⟨kd, hkd⟩ : ∃ kd, kd = k3.alloc (.cells #[.int .i64 (C 0), .int .i64 (C 1), .int .i64 (C 2), .int .i64 (C 3), .int .i64 (C 4), .int .i64 (C 5), .int .i64 (C 6), .int .i64 (C 7)] 46) := ⟨_, rfl⟩
  have Hkd : Hid (Below w1.heap.size w1 kd) := by unfold Hid; rw [hkd]; exact Hk3.out.alloc Hk3.out.size _
  have HCd : Hid (Blk kd Gc 46 (arr8 C)) := by unfold Hid; rw [hkd, hGc]; exact Blk.new _ _ _
  go_upto_region 10 with fail
  rw [← hkd, ← hGc]
  clear hkd hGc
  obtain ⟨r0, r1, r2, r3, r4, r5, r6, r7⟩ := HCd.out.cells8
  go_wp2_with fail
  go_at_call 20
  refine (HFy.out _).mono ?_
  rintro e k4 ⟨rfl, hb⟩
  have Hk4 : Hid (Below w1.heap.size w1 k4) := Hkd.out.trans (hb.mono Hkd.out.size)
  have HC4 : Hid (Blk k4 Gc 46 (arr8 C)) := HCd.out.below hb
  clear hb r0 r1 r2 r3 r4 r5 r6 r7
  obtain ⟨Gy, hGy⟩ : ∃ G, G = k4.heap.size := ⟨_, rfl⟩
  obtain ⟨ke, hke⟩ : ∃ ke, ke = k4.alloc (.cells #[.int .i64 u, .int .i64 Y.a, .int .i64 Y.b, .int .i64 Y.c] 28) := ⟨_, rfl⟩
  have Hke : Hid (Below w1.heap.size w1 ke) := by unfold Hid; rw [hke]; exact Hk4.out.alloc Hk4.out.size _
  have HCe : Hid (Blk ke Gc 46 (arr8 C)) := by unfold Hid; rw [hke]; exact HC4.out.old _
  have HYe : Hid (Blk ke Gy 28 (arrW ⟨u, Y.a, Y.b, Y.c⟩)) := by unfold Hid; rw [hke, hGy]; exact Blk.new _ _ _
  go_upto_region 13 with fail
  rw [← hke, ← hGy]
  clear hke hGy
  have HYc : Hid (∀ W, Blk W Gy 28 (arrW ⟨u, Y.a, Y.b, Y.c⟩) → W.cell? ⟨Gy, 0, none⟩ = some (.int .i64 u) ∧ W.cell? ⟨Gy, 1, none⟩ = some (.int .i64 Y.a) ∧ W.cell? ⟨Gy, 2, none⟩ = some (.int .i64 Y.b) ∧ W.cell? ⟨Gy, 3, none⟩ = some (.int .i64 Y.c)) := fun W h => h.cells4
  obtain ⟨r0, r1, r2, r3⟩ := HYc.out ke HYe.out
  obtain ⟨⟨x0, x1, x2, x3⟩, _, _⟩ := HX.out ke Hke.out
  go_wp2_with fail
  go_at_call 26
  refine (HVa.out _ Hke.out).mono ?_
  rintro e k5 ⟨rfl, hb⟩
  have Hk5 : Hid (Below w1.heap.size w1 k5) := Hke.out.trans (hb.mono Hke.out.size)
  have HC5 : Hid (Blk k5 Gc 46 (arr8 C)) := HCe.out.below hb
  have HY5 : Hid (Blk k5 Gy 28 (arrW ⟨u, Y.a, Y.b, Y.c⟩)) := HYe.out.below hb
  clear hb r0 r1 r2 r3 x0 x1 x2 x3
  obtain ⟨k6, hk6⟩ : ∃ k6, k6 = k5 := ⟨_, rfl⟩
  have Hk6 : Hid (Below w1.heap.size w1 k6) := by unfold Hid; rw [hk6]; exact Hk5.out
  have HY6 : Hid (Blk k6 Gy 28 (arrW ⟨u, Y.a, Y.b, Y.c⟩)) := by unfold Hid; rw [hk6]; exact HY5.out
  rw [← hk6]
  clear hk6
  obtain ⟨⟨x0, x1, x2, x3⟩, _, ⟨z0, z1⟩⟩ := HX.out k6 Hk6.out
  go_wp2_with fail
  go_at_call 8
  refine (HHo.out _ Hk6.out).mono ?_
  rintro e k7 ⟨rfl, hb⟩
  have Hk7 : Hid (Below w1.heap.size w1 k7) := Hk6.out.trans (hb.mono Hk6.out.size)
  have HY7 : Hid (Blk k7 Gy 28 (arrW ⟨u, Y.a, Y.b, Y.c⟩)) := HY6.out.below hb
  clear hb x0 x1 x2 x3 z0 z1
  obtain ⟨r0, r1, r2, r3⟩ := HYc.out k7 HY7.out
  obtain ⟨_, _, ⟨z0, z1⟩⟩ := HX.out k7 Hk7.out
  go_wp2_with fail
  go_at_call 8
  refine (HHy.out _ Hk7.out).mono ?_
  rintro e k8 ⟨rfl, hb⟩
  have Hk8 : Hid (Below w1.heap.size w1 k8) := Hk7.out.trans (hb.mono Hk7.out.size)
  clear hb r0 r1 r2 r3 z0 z1
  have HE : Hid (Below w.heap.size w k8) := HB1.out.trans (Hk8.out.mono HB1.out.size)
  have hbb : (Xf == Xf) = true := by simp
  rcases hEd with rfl | ⟨x, rfl⟩
  all_goals
    go_wp2_with fail
    go_region
    go_wp2
    go_ret
    exact ⟨by simp, by first | exact HE.out | exact HE.out.drew⟩
end Go.Proofs.YtenmheenieifpacDoor
