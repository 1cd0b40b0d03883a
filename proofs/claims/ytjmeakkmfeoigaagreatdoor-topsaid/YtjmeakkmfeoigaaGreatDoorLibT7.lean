/-
  Facts and contracts that the statement leans on.
-/
import Derived.Test.YtjmeakkmfeoigaaGreatDoorLibT6
import Derived.Test.YtjmeakkmfeoigaaGreatDoorRows
import Derived.Test.YtjmeakkmfeoigaaGreatDoorLibT3
import Derived.WalkKit
import Derived.ProofKit
import Derived.OpenShut
import Derived.Test.YtjmeakkmfeoigaaGreatDoorLibT1
import Derived.Deep.QuietTactic
import Derived.BigQuiet
import Derived.RegionTactic
import Derived.ChangeAlike
import Derived.OwnWalk
import Derived.Deep.RegionWith
import Derived.Laws.OwnMore
namespace Go.Proofs.YtjmeakkmfeoigaaGreatDoor
open Go.RowKit
structure LgOk (u : Int) (l : Lg) : Prop where
 hu : l.u = u
 good : ∀ f ∈ l.fs, ∃ a h, f = aloneF a h ∧ a.fault = 0
 n6 : l.fs.length ≤ 6
 op : openN l.fs u.toNat = true
 stop : l.stop = false
 left : l.left < 0
theorem lgok0 (u : Int) : LgOk u (lg0 u) := ⟨rfl, fun f h => (by cases h), Nat.zero_le _, open_nil _, rfl, by show (-1 : Int) < 0; decide⟩
theorem lgok_say {u : Int} {l : Lg} (h : LgOk u l) (a : At) (b : Bool) (n : Int) : LgOk u (l.say a b n) ∧ ((l.sayE a b = 0 ∧ (l.say a b n).fs.length = l.fs.length + 1) ∨ (¬ l.sayE a b = 0 ∧ (l.say a b n).fs.length = l.fs.length)) := by
 by_cases hw : l.wrong a b = 0
 ·have e := wrong_of h.stop a b
  rw [hw] at e
  have ha : a.fault = 0 := by
   by_cases ha : a.fault = 0
   ·exact ha
   ·rw [if_neg ha] at e; exact absurd e.symm ha
  rw [if_pos ha] at e
  have h6 : l.fs.length < 6 := by
   by_cases h6 : 6 ≤ l.fs.length
   ·rw [if_pos h6] at e; exact absurd e (by decide)
   ·omega
  rw [if_neg (by omega)] at e
  have ho : openN (l.fs ++ [aloneF a b]) l.u.toNat = true := by
   by_cases ho : openN (l.fs ++ [aloneF a b]) l.u.toNat = true
   ·exact ho
   ·rw [if_neg ho] at e; exact absurd e (by decide)
  obtain ⟨e1, e2⟩ := say_ok h.stop ha h6 ho (by have := h.left; omega)
  rw [e2 n]
  refine ⟨⟨h.hu, fun f hf => ?_, ?_, ?_, h.stop, ?_⟩, Or.inl ⟨e1, ?_⟩⟩
  ·rcases List.mem_append.1 hf with hf | hf
   ·exact h.good f hf
   ·exact ⟨a, b, by simpa using hf, ha⟩
  ·show (l.fs ++ [aloneF a b]).length ≤ 6
   rw [List.length_append]; show _ + 1 ≤ 6; omega
  ·rw [h.hu] at ho; exact ho
  ·show lessN1 l.left < 0
   unfold lessN1; rw [if_pos h.left]; exact h.left
  ·show (l.fs ++ [aloneF a b]).length = _
   rw [List.length_append]; rfl
 ·obtain ⟨e1, e2⟩ := say_no hw
  rw [e2 n]
  exact ⟨h, Or.inr ⟨by rw [e1]; exact hw, rfl⟩⟩
theorem lgok_sync {u : Int} {l : Lg} (h : LgOk u l) : l.syncE = 0 ∧ LgOk u l.sync ∧ l.sync.fs = l.fs := by
 have hl : ¬ l.left = 0 := by have := h.left; omega
 unfold Lg.syncE Lg.sync
 rw [h.stop, if_neg (by decide), if_neg hl, if_neg (by decide), if_neg hl]
 refine ⟨rfl, ⟨h.hu, h.good, h.n6, h.op, rfl, ?_⟩, rfl⟩
 show lessN1 l.left < 0
 unfold lessN1; rw [if_pos h.left]; exact h.left
theorem lgok_crash {u : Int} {l : Lg} (h : LgOk u l) (keep : Int) : LgOk u (l.crash keep) ∧ (l.crash keep).fs.length ≤ l.fs.length := by
 have hl : (l.crash keep).fs.length ≤ l.fs.length := by show (l.fs.take _).length ≤ _; rw [List.length_take]; omega
 refine ⟨⟨h.hu, fun f hf => h.good f (List.mem_of_mem_take hf), by have := h.n6; omega, open_less (fun f hf => List.mem_of_mem_take hf) h.op, rfl, by show (-1 : Int) < 0; decide⟩, hl⟩
theorem lgok_open {u : Int} {l : Lg} (h : LgOk u l) : l.openB = true := by unfold Lg.openB; rw [h.hu]; exact h.op
theorem alone_fm {f : Fm} (h : ∃ a b, f = aloneF a b ∧ a.fault = 0) : f.fault = 0 ∧ f.ats.length = 1 ∧ f.c.length ≤ 2 := by
 obtain ⟨a, b, rfl, ha⟩ := h
 refine ⟨alone_right ha b, rfl, ?_⟩
 cases b
 ·exact Nat.le_refl 2
 ·exact (by decide : 1 ≤ 2)
def bothFm (f g : Fm) : Fm := ⟨f.ats ++ g.ats, f.c ++ (g.c.map (movedF f.ats.length) ++ [10])⟩
def accF (fs : List Fm) : Nat → Fm
 | 0 => fs.getD 0 fmZ
 | i + 1 => bothFm (accF fs i) (fs.getD (i + 1) fmZ)
theorem both_is {f g : Fm} (hf : f.fault = 0) (hg : g.fault = 0) (hl : f.ats.length + g.ats.length ≤ 6) (hc : f.c.length + g.c.length ≤ 19) : (bothFm f g).fault = 0 ∧ ∀ D : Wd, D.ok = true → D.formIs (bothFm f g).ats (bothFm f g).c = (D.formIs f.ats f.c && D.formIs g.ats g.c) := by
 have h0 : formFault (bothFm f g).ats (bothFm f g).c = 0 := good_both hf hg hl hc
 refine ⟨h0, fun D hD => ?_⟩
 unfold Wd.formIs
 rw [if_pos (wdForm_zero.2 ⟨h0, hD⟩), if_pos (wdForm_zero.2 ⟨hf, hD⟩), if_pos (wdForm_zero.2 ⟨hg, hD⟩)]
 have e : D.heldL (bothFm f g).ats = D.heldL f.ats ++ D.heldL g.ats := by unfold Wd.heldL bothFm; rw [List.map_append]
 rw [e]
 exact val_both _ _ (by unfold Wd.heldL; rw [List.length_map]) hf hg hl
theorem acc_facts {fs : List Fm} (hgood : ∀ f ∈ fs, ∃ a h, f = aloneF a h ∧ a.fault = 0) (h6 : fs.length ≤ 6) : ∀ i, i < fs.length → (accF fs i).fault = 0 ∧ (accF fs i).ats.length = i + 1 ∧ (accF fs i).c.length ≤ 3 * i + 2 ∧ ∀ D : Wd, D.ok = true → D.formIs (accF fs i).ats (accF fs i).c = true → ∀ j, j ≤ i → ∀ f, fs[j]? = some f → D.formIs f.ats f.c = true := by
 intro i
 induction i with
 | zero =>
  intro hi
  have e : fs.getD 0 fmZ = fs[0] := by rw [List.getD_eq_getElem?_getD, List.getElem?_eq_getElem hi]; rfl
  have ha := alone_fm (hgood fs[0] (List.getElem_mem hi))
  unfold accF
  rw [e]
  refine ⟨ha.1, ha.2.1, by have := ha.2.2; omega, fun D _ hD j hj f hf => ?_⟩
  obtain rfl : j = 0 := by omega
  rw [List.getElem?_eq_getElem hi] at hf
  obtain rfl := Option.some.inj hf
  exact hD
 | succ i ih =>
  intro hi
  obtain ⟨a1, a2, a3, a4⟩ := ih (by omega)
  have e : fs.getD (i + 1) fmZ = fs[i + 1] := by rw [List.getD_eq_getElem?_getD, List.getElem?_eq_getElem hi]; rfl
  have ha := alone_fm (hgood fs[i + 1] (List.getElem_mem hi))
  have hu : accF fs (i + 1) = bothFm (accF fs i) fs[i + 1] := by
   show bothFm (accF fs i) (fs.getD (i + 1) fmZ) = _
   rw [e]
  rw [hu]
  obtain ⟨b1, b2⟩ := both_is a1 ha.1 (by rw [a2, ha.2.1]; omega) (by have := ha.2.2; omega)
  refine ⟨b1, ?_, ?_, fun D hD h j hj f hf => ?_⟩
  ·show (_ ++ _ : List At).length = _
   rw [List.length_append, a2, ha.2.1]
  ·show (_ ++ (_ ++ _) : List Int).length ≤ _
   rw [List.length_append, List.length_append, List.length_map]
   have := ha.2.2
   show _ + (_ + 1) ≤ _
   omega
  ·rw [b2 D hD, Bool.and_eq_true] at h
   rcases Nat.lt_or_ge i j with hji | hji
   ·obtain rfl : j = i + 1 := by omega
    rw [List.getElem?_eq_getElem hi] at hf
    obtain rfl := Option.some.inj hf
    exact h.2
   ·exact a4 D hD h.1 j hji f hf
theorem acc_so {fs : List Fm} (hgood : ∀ f ∈ fs, ∃ a h, f = aloneF a h ∧ a.fault = 0) (h6 : fs.length ≤ 6) {D : Wd} (hD : D.ok = true) (hs : D.so fs = true) : ∀ i, i < fs.length → D.formIs (accF fs i).ats (accF fs i).c = true := by
 have hall : ∀ f ∈ fs, D.formIs f.ats f.c = true := by unfold Wd.so at hs; rw [List.all_eq_true] at hs; exact hs
 intro i
 induction i with
 | zero =>
  intro hi
  have e : fs.getD 0 fmZ = fs[0] := by rw [List.getD_eq_getElem?_getD, List.getElem?_eq_getElem hi]; rfl
  unfold accF
  rw [e]
  exact hall _ (List.getElem_mem hi)
 | succ i ih =>
  intro hi
  obtain ⟨a1, a2, a3, _⟩ := acc_facts hgood h6 i (by omega)
  have e : fs.getD (i + 1) fmZ = fs[i + 1] := by rw [List.getD_eq_getElem?_getD, List.getElem?_eq_getElem hi]; rfl
  have ha := alone_fm (hgood fs[i + 1] (List.getElem_mem hi))
  have hu : accF fs (i + 1) = bothFm (accF fs i) fs[i + 1] := by
   show bothFm (accF fs i) (fs.getD (i + 1) fmZ) = _
   rw [e]
  rw [hu, (both_is a1 ha.1 (by rw [a2, ha.2.1]; omega) (by have := ha.2.2; omega)).2 D hD, ih (by omega), hall _ (List.getElem_mem hi)]
  rfl
theorem said_follows {fs : List Fm} {u : Int} (hu : 0 ≤ u ∧ u ≤ 6) (hgood : ∀ f ∈ fs, ∃ a h, f = aloneF a h ∧ a.fault = 0) (h6 : fs.length ≤ 6) (ho : openN fs u.toNat = true) {f : Fm} (hf : f ∈ fs) : askFault fs f.ats f.c u = 0 ∧ askN fs f.ats f.c u = 1 := by
 have hz : formsFault fs u = 0 := forms_zero.2 ⟨⟨List.length_pos_iff.2 (List.ne_nil_of_mem hf), h6⟩, fun g hg => (alone_fm (hgood g hg)).1, hu⟩
 have hff : formFault f.ats f.c = 0 := (alone_fm (hgood f hf)).1
 have hall : ∀ D : Wd, D.so fs = true → D.formIs f.ats f.c = true := fun D hs => by
  unfold Wd.so at hs
  rw [List.all_eq_true] at hs
  exact hs f hf
 have p2 : (askP fs f.ats f.c u.toNat).2 = 0 := (ask_no fs f.ats f.c _).2 fun D _ hs => hall D hs
 have p1 : ¬ (askP fs f.ats f.c u.toNat).1 = 0 := fun h => by
  have hno := (ask_yes fs f.ats f.c _).1 h
  unfold openN at ho
  rw [List.any_eq_true] at ho
  obtain ⟨N, hN, hs⟩ := ho
  have := hno (madeN N 8) (List.mem_map.2 ⟨N, hN, rfl⟩) hs
  rw [hall _ hs] at this
  exact absurd this (by decide)
 have e0 : askFault fs f.ats f.c u = 0 := by unfold askFault; rw [if_pos hz, if_pos hff, if_neg (by rw [p2]; omega)]
 refine ⟨e0, ?_⟩
 unfold askN answerN
 rw [if_pos e0, if_pos p2]
theorem said_model {fs : List Fm} {u : Int} (hu : 0 ≤ u ∧ u ≤ 6) (hgood : ∀ f ∈ fs, ∃ a h, f = aloneF a h ∧ a.fault = 0) (h6 : fs.length ≤ 6) (ho : openN fs u.toNat = true) {i : Nat} (hi : i + 1 = fs.length) :
    (modelFault (accF fs i).ats (accF fs i).c u = 4 ∨ modelFault (accF fs i).ats (accF fs i).c u = 0) ∧ (modelFault (accF fs i).ats (accF fs i).c u = 0 → (modelW (accF fs i).ats (accF fs i).c u).ok = true ∧ ∀ f ∈ fs, (modelW (accF fs i).ats (accF fs i).c u).formIs f.ats f.c = true) := by
 obtain ⟨a1, _, _, a4⟩ := acc_facts hgood h6 i (by omega)
 have hff : formFault (accF fs i).ats (accF fs i).c = 0 := a1
 refine ⟨?_, fun h0 => ?_⟩
 ·cases hL : cubesC (accF fs i).c with
  | none => left; unfold modelFault; rw [if_pos hff, hL]
  | some L =>
   right
   have e : modelFault (accF fs i).ats (accF fs i).c u = if (modelL (accF fs i).ats u.toNat L).isSome = true then 0 else 5 := by
    unfold modelFault; rw [if_pos hff, hL]; show (if 0 ≤ u ∧ u ≤ 6 then _ else (1 : Int)) = _; rw [if_pos hu]
   by_cases hm : (modelL (accF fs i).ats u.toNat L).isSome = true
   ·rw [e, if_pos hm]
   ·rw [if_neg hm] at e
    obtain ⟨D, hD, hDu, hs⟩ := open_has (u := u.toNat) (by omega) ho
    have h1 := acc_so hgood h6 hD hs i (by omega)
    rw [model_five e hff hD (by rw [hDu]; omega)] at h1
    exact absurd h1 (by decide)
 ·obtain ⟨_, g2, _, g4⟩ := model_zero h0
  refine ⟨g2, fun f hf => ?_⟩
  obtain ⟨j, hj⟩ := List.mem_iff_getElem?.1 hf
  have hjl := (List.getElem?_eq_some_iff.1 hj).1
  exact a4 _ g2 g4 j (by omega) f hj
end Go.Proofs.YtjmeakkmfeoigaaGreatDoor
namespace Go.Proofs.YtjmeakkmfeoigaaGreatDoor
open Go.ChangeShapes Go.WideShapes Go.ChangeAt Go.RowKit
def Reads (w : World) (v : Value) (t : List Int) : Prop :=
 (∃ ao cap, v = .slice ao 0 cap ∧ t = []) ∨ (∃ b off cap, v = .slice (some ⟨b, off, none⟩) t.length cap ∧ b < w.heap.size ∧ 0 < t.length ∧ (t.length ≤ 9223372036854775807 ∧ t.length ≤ cap) ∧ ∀ k, k < t.length → w.cell? ⟨b, off + k, none⟩ = some (.int .i64 (t.getD k 0)))
theorem Reads.below {w w' : World} {v : Value} {t : List Int} (h : Reads w v t) (hb : Below w.heap.size w w') : Reads w' v t := by
 rcases h with h | ⟨b, off, cap, h1, h2, h3, h4, h5⟩
 ·exact Or.inl h
 ·exact Or.inr ⟨b, off, cap, h1, Nat.lt_of_lt_of_le h2 hb.size, h3, h4, fun k hk => by rw [hb.cell h2]; exact h5 k hk⟩
def Wd.v (w : Wd) : Value := .agg #[.int .i64 w.u, .int .i64 w.a, .int .i64 w.b, .int .i64 w.c]
def NewV (K : Nat) (v : Value) : Prop := ∃ ao n c, v = .slice ao n c ∧ ∀ p, ao = some p → K ≤ p.block
def errV (n : Int) : Value := if n = 0 then .nilIface else .iface 64 (.int .i64 n)
theorem back_b {a b : Bool} (h : a = b) : Ending.returned (.bool a) = .returned (.bool b) := by rw [h]
theorem back_i {k : IntKind} {a b : Int} (h : a = b) : Ending.returned (.int k a) = .returned (.int k b) := by rw [h]
theorem back_v {a b : Value} (h : a = b) : Ending.returned a = .returned b := by rw [h]
theorem takes_any (s : Int) (w : World) :
    Calls Tryz.prog 146 #[.int .i64 s] w (Sk w (.int .i64 (takesN s))) := by
 by_cases h5 : s = 5
 ·subst h5
  go_enter Tryz.func146, Tryz.ntmps146
  go_wp2
  go_ret
  exact ⟨rfl, rfl⟩
 by_cases h6 : s = 6
 ·subst h6
  go_enter Tryz.func146, Tryz.ntmps146
  go_wp2
  go_ret
  exact ⟨rfl, rfl⟩
 by_cases h7 : s = 7
 ·subst h7
  go_enter Tryz.func146, Tryz.ntmps146
  go_wp2
  go_ret
  exact ⟨rfl, rfl⟩
 by_cases h8 : s = 8
 ·subst h8
  go_enter Tryz.func146, Tryz.ntmps146
  go_wp2
  go_ret
  exact ⟨rfl, rfl⟩
 have e : takesN s = 0 := by unfold takesN; rw [if_neg (by omega), if_neg h8]
 rw [e]
 clear e
 have h5' : (s == 5) = false := by simpa using h5
 have h6' : (s == 6) = false := by simpa using h6
 have h7' : (s == 7) = false := by simpa using h7
 have h8' : (s == 8) = false := by simpa using h8
 clear h5 h6 h7 h8
 go_enter Tryz.func146, Tryz.ntmps146
 go_wp2
 go_ret
 exact ⟨rfl, rfl⟩
theorem noSign_any (s : Int) (w : World) :
    Calls Tryz.prog 109 #[.int .i64 s] w (Sk w (.bool (!signB s))) := by
 by_cases h0 : s < 0
 ·have e : signB s = false := by simp [signB]; omega
  rw [e]
  clear e
  go_enter Tryz.func109, Tryz.ntmps109
  go_wp2
  go_ret
  exact ⟨rfl, rfl⟩
 by_cases h8 : 8 < s
 ·have e : signB s = false := by simp [signB]; omega
  rw [e]
  clear e
  go_enter Tryz.func109, Tryz.ntmps109
  go_wp2
  go_ret
  exact ⟨rfl, rfl⟩
 have e : signB s = true := by simp [signB]; omega
 rw [e]
 clear e
 go_enter Tryz.func109, Tryz.ntmps109
 go_wp2
 go_ret
 exact ⟨rfl, rfl⟩
def firstBad : List Int → Nat → Int
 | [], _ => -1
 | s :: l, k => if signB s = true then firstBad l (k + 1) else k
theorem firstBad_lt (t : List Int) (k : Nat) : (firstBad t k < 0 ↔ t.all signB = true) ∧ -1 ≤ firstBad t k := by
 induction t generalizing k with
 | nil => exact ⟨⟨fun _ => rfl, fun _ => show (-1 : Int) < 0 by decide⟩, Int.le_refl _⟩
 | cons s l ih =>
  unfold firstBad
  by_cases h : signB s = true
  ·rw [if_pos h]; simpa [h] using ih (k + 1)
  ·rw [if_neg h]; simp only [List.all_cons, h]; simp
theorem firstBad_drop (t : List Int) {k : Nat} (hk : k < t.length) : firstBad (t.drop k) k = if signB (t.getD k 0) = true then firstBad (t.drop (k + 1)) (k + 1) else k := by
 rw [List.drop_eq_getElem_cons hk]
 simp [firstBad, List.getElem?_eq_getElem hk]
theorem indexFunc_any (b off cap : Nat) (t : List Int) (w : World) (hl : t.length ≤ 9223372036854775807) (hc : ∀ k, k < t.length → w.cell? ⟨b, off + k, none⟩ = some (.int .i64 (t.getD k 0))) :
    Calls Tryz.prog 70 #[.slice (some ⟨b, off, none⟩) t.length cap, .func (.func 109) #[] #[]] w (Sk w (.int .i64 (firstBad t 0))) := by
 have HF : Hid (∀ {k : Nat}, k < t.length → firstBad (t.drop k) k = if signB (t.getD k 0) = true then firstBad (t.drop (k + 1)) (k + 1) else k) := fun {_} h => firstBad_drop t h
 have HC := hide hc
 clear hc
 obtain ⟨n, hn⟩ := nm t.length
 rw [← hn] at hl ⊢
 have HN := hide hn
 clear hn
 go_enter Tryz.func70, Tryz.ntmps70
 go_wp2
 go_loop [8] (fun i => ∃ k : Nat, k ≤ n ∧ i = .int .i64 k ∧ firstBad (t.drop k) k = firstBad t 0) (fun i => n - (intOf i).toNat)
 case atStart => exact ⟨0, Nat.zero_le _, rfl, rfl⟩
 case round =>
  obtain ⟨k, hk, rfl, hF⟩ := hrel
  have HK := hide hF
  clear hF
  by_cases hlt : k < n
  ·obtain ⟨s, hs⟩ := nm (t.getD k 0)
   have hc := HC.out k (by rw [← HN.out]; exact hlt)
   rw [← hs] at hc
   have HS := hide hs
   clear hs
   have HD : Hid (firstBad (t.drop k) k = if signB s = true then firstBad (t.drop (k + 1)) (k + 1) else k) := by
    have := HF.out (k := k) (by rw [← HN.out]; exact hlt)
    rw [← HS.out] at this; exact this
   by_cases hb : signB s = true
   ·have HD' : Hid (firstBad (t.drop (k + 1)) (k + 1) = firstBad t 0) := by
     have h1 := HD.out
     rw [if_pos hb] at h1
     exact h1.symm.trans HK.out
    go_wp2_with (go_at_call 109; refine (noSign_any _ _).mono ?_; rintro e w' ⟨rfl, rfl⟩)
    go_round
    case rel => exact ⟨k + 1, by omega, by go_num, HD'.out⟩
    case measure => simp [intOf]; omega
   ·have HD' : Hid ((k : Int) = firstBad t 0) := by
     have h1 := HD.out
     rw [if_neg hb] at h1
     exact h1.symm.trans HK.out
    have hb' : signB s = false := by simpa using hb
    clear hb
    go_wp2_with (go_at_call 109; refine (noSign_any _ _).mono ?_; rintro e w' ⟨rfl, rfl⟩)
    go_ret
    exact ⟨back_i HD'.out, rfl⟩
  ·have HE : Hid (firstBad t 0 = -1) := by
    have h1 := HK.out
    rw [List.drop_eq_nil_of_le (by have := HN.out; omega)] at h1
    exact h1.symm
   go_wp2
   go_ret
   exact ⟨back_i HE.out.symm, rfl⟩
theorem containsFunc_any (b off cap : Nat) (t : List Int) (w : World) (hl : t.length ≤ 9223372036854775807) (hc : ∀ k, k < t.length → w.cell? ⟨b, off + k, none⟩ = some (.int .i64 (t.getD k 0))) :
    Calls Tryz.prog 39 #[.slice (some ⟨b, off, none⟩) t.length cap, .func (.func 109) #[] #[]] w (Sk w (.bool (!t.all signB))) := by
 have c := indexFunc_any b off cap t w hl hc
 clear hc
 obtain ⟨h1, h2⟩ := firstBad_lt t 0
 obtain ⟨n, hn⟩ := nm (firstBad t 0)
 rw [← hn] at c h1 h2
 clear hn
 by_cases h : t.all signB = true
 ·obtain rfl : n = -1 := by have := h1.2 h; omega
  rw [h]
  clear h1 h2 h
  go_enter Tryz.func39, Tryz.ntmps39
  go_wp2_with (go_at_call 70; refine c.mono ?_; rintro e w' ⟨rfl, rfl⟩)
  go_ret
  exact ⟨rfl, rfl⟩
 ·have h0 : 0 ≤ n := by
   rcases Int.lt_or_le n 0 with h' | h'
   ·exact absurd (h1.1 h') h
   ·exact h'
  have h' : t.all signB = false := by simpa using h
  rw [h']
  clear h1 h2 h h'
  go_enter Tryz.func39, Tryz.ntmps39
  go_wp2_with (go_at_call 70; refine c.mono ?_; rintro e w' ⟨rfl, rfl⟩)
  go_ret
  exact ⟨rfl, rfl⟩
theorem isOne_any (b off cap : Nat) (t : List Int) (w : World) (hl : t.length ≤ 12) (hc : ∀ k, k < t.length → w.cell? ⟨b, off + k, none⟩ = some (.int .i64 (t.getD k 0))) :
    Calls Tryz.prog 110 #[.slice (some ⟨b, off, none⟩) t.length cap] w (Sk w (.bool (decide (cnt t 0 = some 1)))) := by
 have HC := hide hc
 clear hc
 obtain ⟨n, hn⟩ := nm t.length
 rw [← hn] at hl ⊢
 have HN := hide hn
 clear hn
 obtain ⟨R, hR⟩ := nm (decide (cnt t 0 = some 1))
 rw [← hR]
 have HR := hide hR
 clear hR
 go_enter Tryz.func110, Tryz.ntmps110
 go_wp2
 go_loop [3, 8] (fun c i => ∃ (k : Nat) (m : Int), k ≤ n ∧ i = .int .i64 k ∧ c = .int .i64 m ∧ cnt (t.take k) 0 = some m) (fun _ i => n - (intOf i).toNat)
 case atStart => exact ⟨0, 0, Nat.zero_le _, rfl, rfl, rfl⟩
 case round =>
  obtain ⟨k, m, hk, rfl, rfl, hm⟩ := hrel
  have HM := hide hm
  have hm0 : 0 ≤ m ∧ m ≤ 12 := by
   have := cnt_nonneg (Int.le_refl 0) hm
   simp at this
   omega
  clear hm
  by_cases hlt : k < n
  ·obtain ⟨s, hs⟩ := nm (t.getD k 0)
   have hc := HC.out k (by rw [← HN.out]; exact hlt)
   rw [← hs] at hc
   have HD : Hid (cnt (t.take (k + 1)) 0 = if m < takesN s then none else some (m + 1 - takesN s)) := by
    have := cnt_take_succ t (k := k) (by rw [← HN.out]; exact hlt) HM.out
    rw [← hs] at this; exact this
   clear hs
   have ht := takesN_range s
   by_cases hb : m < takesN s
   ·have HE : Hid (R = false) := by
     have h1 := HD.out
     rw [if_pos hb] at h1
     have h2 := cnt_take_none t (k + 1) h1
     have h3 := HR.out
     rw [h2] at h3
     exact h3.trans (by decide)
    go_wp2_with (go_at_call 146; refine (takes_any _ _).mono ?_; rintro e w' ⟨rfl, rfl⟩)
    go_ret
    exact ⟨back_b HE.out.symm, rfl⟩
   ·have HE : Hid (cnt (t.take (k + 1)) 0 = some (m + (1 - takesN s))) := by
     have h1 := HD.out
     rw [if_neg hb] at h1
     rw [show m + (1 - takesN s) = m + 1 - takesN s by omega]
     exact h1
    go_wp2_with (go_at_call 146; refine (takes_any _ _).mono ?_; rintro e w' ⟨rfl, rfl⟩)
    go_round
    case rel => exact ⟨k + 1, _, by omega, by go_num, rfl, HE.out⟩
    case measure => simp [intOf]; omega
  ·have HE : Hid (R = (m == 1)) := by
    have h1 := HM.out
    rw [List.take_of_length_le (by have := HN.out; omega)] at h1
    have h3 := HR.out
    rw [h1] at h3
    rw [h3]
    by_cases h : m = 1
    ·subst h; rfl
    ·rw [decide_eq_false (by simpa using h)]; exact (beq_eq_false_iff_ne.2 h).symm
   go_wp2
   go_ret
   exact ⟨back_b HE.out.symm, rfl⟩
theorem tcheck_any (t : List Int) (v : Value) (w : World) (h : Reads w v t) :
    Calls Tryz.prog 68 #[v] w (Sk w (errV (faultN t))) := by
 rcases h with ⟨ao, cap, rfl, rfl⟩ | ⟨b, off, cap, rfl, -, h0, ⟨hl, _⟩, hc⟩
 ·go_enter Tryz.func68, Tryz.ntmps68
  go_wp2
  go_ret
  exact ⟨rfl, rfl⟩
 ·have cF := containsFunc_any b off cap t w hl hc
  by_cases h12 : 12 < t.length
  ·have e : errV (faultN t) = .iface 64 (.int .i64 4) := by unfold faultN; rw [if_neg (by omega), if_pos h12]; rfl
   rw [e]
   clear e hc cF
   obtain ⟨n, hn⟩ := nm t.length
   rw [← hn] at h0 hl h12 ⊢
   clear hn
   go_enter Tryz.func68, Tryz.ntmps68
   go_wp2
   go_ret
   exact ⟨rfl, rfl⟩
  have hl12 : t.length ≤ 12 := by omega
  have cO := isOne_any b off cap t w hl12 hc
  clear hc
  obtain ⟨F, hF⟩ := nm (faultN t)
  rw [← hF]
  have HF : Hid (F = if t.all signB = true then (if cnt t 0 = some 1 then 0 else 3) else 1) := by
   unfold Hid; rw [hF]; unfold faultN; rw [if_neg (by omega), if_neg h12]
  clear hF
  obtain ⟨n, hn⟩ := nm t.length
  rw [← hn] at h0 hl hl12 h12 cF cO ⊢
  clear hn
  obtain ⟨x, hx⟩ := nm (t.all signB)
  obtain ⟨y, hy⟩ := nm (decide (cnt t 0 = some 1))
  rw [← hx] at cF
  rw [← hy] at cO
  have HF' : Hid (F = if x = true then (if y = true then 0 else 3) else 1) := by
   unfold Hid; rw [HF.out, hx, hy]; simp only [decide_eq_true_eq]
  clear HF hx hy
  have HP := hide cF
  have HQ := hide cO
  clear cF cO
  cases x <;> cases y
  all_goals
   go_enter Tryz.func68, Tryz.ntmps68
   go_wp2_with (first | (go_at_call 39; refine HP.out.mono ?_; rintro e w' ⟨rfl, rfl⟩) | (go_at_call 110; refine HQ.out.mono ?_; rintro e w' ⟨rfl, rfl⟩))
   go_ret
   exact ⟨back_v (by rw [HF'.out]; rfl), rfl⟩
theorem below_alloc1 (w : World) (o : Obj) : Below w.heap.size w (w.alloc o) := (Below.refl _ _).alloc (Nat.le_refl _) _
theorem errV_no {n : Int} (h : ¬ n = 0) : errV n = .iface 64 (.int .i64 n) := by unfold errV; rw [if_neg h]
end Go.Proofs.YtjmeakkmfeoigaaGreatDoor
namespace Go.Proofs.YtjmeakkmfeoigaaGreatDoor
open Go.ChangeShapes Go.WideShapes Go.ChangeAt Go.RowKit
theorem ret_int {k : IntKind} {a b : Int} (h : a = b) : Ending.returned (.int k a) = .returned (.int k b) := by rw [h]
theorem all_any (u : Int) (h0 : 0 ≤ u) (h1 : u ≤ 6) (w : World) :
    Calls Tryz.prog 57 #[.int .i64 u] w (Sk w (.int .i64 (allN u))) := by
 rcases seven h0 h1 with rfl | rfl | rfl | rfl | rfl | rfl | rfl
 all_goals
  go_enter Tryz.func57, Tryz.ntmps57
  go_wp2
  go_ret
  exact ⟨rfl, rfl⟩
theorem check_ok (u s : Int) (h : okB u s = true) (w : World) :
    Calls Tryz.prog 27 #[.int .i64 u, .int .i64 s] w (Sk w .nilIface) := by
 obtain ⟨h0, h1, h2, h3⟩ := okB_iff.1 h
 clear h
 go_enter Tryz.func27, Tryz.ntmps27
 go_wp2_with (go_at_call 57; refine (all_any _ h0 h1 _).mono ?_; rintro e w' ⟨rfl, rfl⟩)
 go_ret
 exact ⟨rfl, rfl⟩
theorem check_no (u s : Int) (h : okB u s = false) (w : World) :
    Calls Tryz.prog 27 #[.int .i64 u, .int .i64 s] w (Sk w (.iface 64 (.int .i64 1))) := by
 have h' := okB_not.1 h
 clear h
 by_cases h0 : u < 0
 ·clear h'
  go_enter Tryz.func27, Tryz.ntmps27
  go_wp2_with fail
  go_ret
  exact ⟨rfl, rfl⟩
 by_cases h1 : 6 < u
 ·clear h'
  go_enter Tryz.func27, Tryz.ntmps27
  go_wp2_with fail
  go_ret
  exact ⟨rfl, rfl⟩
 by_cases h2 : s < 0
 ·clear h'
  go_enter Tryz.func27, Tryz.ntmps27
  go_wp2_with fail
  go_ret
  exact ⟨rfl, rfl⟩
 have h3 : allN u < s := by omega
 have h0' : 0 ≤ u := by omega
 have h1' : u ≤ 6 := by omega
 clear h'
 go_enter Tryz.func27, Tryz.ntmps27
 go_wp2_with (go_at_call 57; refine (all_any _ h0' h1' _).mono ?_; rintro e w' ⟨rfl, rfl⟩)
 go_ret
 exact ⟨rfl, rfl⟩
theorem ret_two {k : IntKind} {a b : Int} {v : Value} (h : a = b) : Ending.returned (.tuple #[.int k a, v]) = .returned (.tuple #[.int k b, v]) := by rw [h]
theorem do_ok (what u a b : Int) (hl : 5 ≤ what) (hm : what ≤ 8) (ha : okB u a = true) (hb : okB u b = true) (w : World) :
    Calls Tryz.prog 185 #[.int .i64 what, .int .i64 u, .int .i64 a, .int .i64 b] w (Sk w (.tuple #[.int .i64 (doN what u a b), .nilIface])) := by
 obtain ⟨u0, u1, a0, a1⟩ := okB_lt ha
 obtain ⟨_, _, b0, b1⟩ := okB_lt hb
 have hd : what = 5 ∨ what = 6 ∨ what = 7 ∨ what = 8 := by omega
 clear hl hm
 rcases hd with rfl | rfl | rfl | rfl
 ·go_enter Tryz.func185, Tryz.ntmps185
  go_wp2_with (go_at_call 27; refine (check_ok _ _ ?_ _).mono ?_; assumption; rintro e w' ⟨rfl, rfl⟩)
  go_ret2
  exact ⟨ret_two (or_bits a b a0 a1 b0 b1), rfl⟩
 ·go_enter Tryz.func185, Tryz.ntmps185
  go_wp2_with (go_at_call 27; refine (check_ok _ _ ?_ _).mono ?_; assumption; rintro e w' ⟨rfl, rfl⟩)
  go_ret2
  exact ⟨ret_two (and_bits a b a0 a1 b0 b1), rfl⟩
 ·go_enter Tryz.func185, Tryz.ntmps185
  go_wp2_with (go_at_call 27; refine (check_ok _ _ ?_ _).mono ?_; assumption; rintro e w' ⟨rfl, rfl⟩)
  go_ret2
  exact ⟨ret_two (less_bits a b a0 a1 b0 b1), rfl⟩
 ·go_enter Tryz.func185, Tryz.ntmps185
  go_wp2_with (first | (go_at_call 27; refine (check_ok _ _ ?_ _).mono ?_; assumption; rintro e w' ⟨rfl, rfl⟩) | (go_at_call 57; refine (all_any _ u0 u1 _).mono ?_; rintro e w' ⟨rfl, rfl⟩))
  go_ret2
  have hu := allN_le u0 u1
  exact ⟨ret_two (less_bits (allN u) a hu.1 (by omega) a0 a1), rfl⟩
end Go.Proofs.YtjmeakkmfeoigaaGreatDoor
namespace Go.Proofs.YtjmeakkmfeoigaaGreatDoor
open Go.ChangeShapes Go.WideShapes Go.ChangeAt Go.RowKit
theorem below_drewNs (w : World) : ∀ n, Below w.heap.size w (w.drewN n)
 | 0 => Below.refl _ _
 | n + 1 => (below_drewNs w n).drew
set_option maxHeartbeats 1000000 in
theorem made_leaf_any (u a b c s : Int) (v : Value) (w : World) (h0 : 0 ≤ s) (h4 : s ≤ 4) (hw : (Wd.mk u a b c).ok = true) :
    Calls Tryz.prog 158 #[.int .i64 s, v, .agg #[.int .i64 u, .int .i64 a, .int .i64 b, .int .i64 c]] w (Bk w (.tuple #[.int .i64 ((Wd.mk u a b c).made s []), .nilIface])) := by
 have hd : s = 0 ∨ s = 1 ∨ s = 2 ∨ s = 3 ∨ s = 4 := by omega
 have z : okB u 0 = true := ok_zero (ok_u hw).1 (ok_u hw).2
 clear h0 h4 hw
 rcases hd with rfl | rfl | rfl | rfl | rfl
 ·go_enter Tryz.func158, Tryz.ntmps158
  go_wp2
  go_ret2
  exact ⟨rfl, below_alloc1 _ _⟩
 ·go_enter Tryz.func158, Tryz.ntmps158
  go_wp2
  go_ret2
  exact ⟨rfl, below_alloc1 _ _⟩
 ·go_enter Tryz.func158, Tryz.ntmps158
  go_wp2
  go_ret2
  exact ⟨rfl, below_alloc1 _ _⟩
 ·go_enter Tryz.func158, Tryz.ntmps158
  go_wp2
  go_ret2
  exact ⟨rfl, below_alloc1 _ _⟩
 ·go_enter Tryz.func158, Tryz.ntmps158
  go_wp2_with (go_at_call 185; refine (do_ok _ _ _ _ ?_ ?_ z z _).mono ?_; decide; decide; rintro e w' ⟨rfl, rfl⟩)
  go_ret2
  exact ⟨rfl, below_alloc1 _ _⟩
set_option maxHeartbeats 1000000 in
theorem made_one_any (u a b c s x : Int) (B off cap : Nat) (w : World) (h5 : 5 ≤ s) (h8 : s ≤ 8) (hx : okB u x = true) (hB : B < w.heap.size) (c0 : w.cell? ⟨B, off, none⟩ = some (.int .i64 x)) :
    Calls Tryz.prog 158 #[.int .i64 s, .slice (some ⟨B, off, none⟩) 1 cap, .agg #[.int .i64 u, .int .i64 a, .int .i64 b, .int .i64 c]] w (Bk w (.tuple #[.int .i64 (doN s u x x), .nilIface])) := by
 have g0 : (s == 0) = false := by simp; omega
 have g1 : (s == 1) = false := by simp; omega
 have g2 : (s == 2) = false := by simp; omega
 have g3 : (s == 3) = false := by simp; omega
 have g4 : (s == 4) = false := by simp; omega
 have HD : Hid (∀ W, Calls Tryz.prog 185 #[.int .i64 s, .int .i64 u, .int .i64 x, .int .i64 x] W fun e w' => e = .returned (.tuple #[.int .i64 (doN s u x x), .nilIface]) ∧ w' = W) := fun W => (do_ok s u x x h5 h8 hx hx W).mono fun _ _ h => (And.intro h.1 h.2.symm)
 clear hx
 have d0 : (w.alloc (.cells #[.int .i64 u, .int .i64 a, .int .i64 b, .int .i64 c] 55)).cell? ⟨B, off, none⟩ = some (.int .i64 x) := by
  rw [World.cell?_alloc_lt _ _ ⟨B, off, none⟩ hB]; exact c0
 clear c0 hB
 go_enter Tryz.func158, Tryz.ntmps158
 go_wp2_with fail
 go_quiet (first | (go_at_call 185; exact Calls.quiet_of_same (HD.out _)))
 go_wp2
 go_ret2
 exact ⟨rfl, (below_alloc1 _ _).trans ((below_drewNs _ _).mono (by simp))⟩
set_option maxHeartbeats 1000000 in
theorem made_two_any (u a b c s x y : Int) (B off cap : Nat) (w : World) (h5 : 5 ≤ s) (h8 : s ≤ 8) (hx : okB u x = true) (hy : okB u y = true) (hB : B < w.heap.size)
    (c0 : w.cell? ⟨B, off, none⟩ = some (.int .i64 x)) (c1 : w.cell? ⟨B, off + 1, none⟩ = some (.int .i64 y)) :
    Calls Tryz.prog 158 #[.int .i64 s, .slice (some ⟨B, off, none⟩) 2 cap, .agg #[.int .i64 u, .int .i64 a, .int .i64 b, .int .i64 c]] w (Bk w (.tuple #[.int .i64 (doN s u x y), .nilIface])) := by
 have g0 : (s == 0) = false := by simp; omega
 have g1 : (s == 1) = false := by simp; omega
 have g2 : (s == 2) = false := by simp; omega
 have g3 : (s == 3) = false := by simp; omega
 have g4 : (s == 4) = false := by simp; omega
 have HD : Hid (∀ W, Calls Tryz.prog 185 #[.int .i64 s, .int .i64 u, .int .i64 x, .int .i64 y] W fun e w' => e = .returned (.tuple #[.int .i64 (doN s u x y), .nilIface]) ∧ w' = W) := fun W => (do_ok s u x y h5 h8 hx hy W).mono fun _ _ h => (And.intro h.1 h.2.symm)
 clear hx hy
 have d0 : (w.alloc (.cells #[.int .i64 u, .int .i64 a, .int .i64 b, .int .i64 c] 55)).cell? ⟨B, off, none⟩ = some (.int .i64 x) := by
  rw [World.cell?_alloc_lt _ _ ⟨B, off, none⟩ hB]; exact c0
 have d1 : (w.alloc (.cells #[.int .i64 u, .int .i64 a, .int .i64 b, .int .i64 c] 55)).cell? ⟨B, off + 1, none⟩ = some (.int .i64 y) := by
  rw [World.cell?_alloc_lt _ _ ⟨B, off + 1, none⟩ hB]; exact c1
 clear c0 c1 hB
 go_enter Tryz.func158, Tryz.ntmps158
 go_wp2_with fail
 go_quiet (first | (go_at_call 185; exact Calls.quiet_of_same (HD.out _)))
 go_wp2
 go_ret2
 exact ⟨rfl, (below_alloc1 _ _).trans ((below_drewNs _ _).mono (by simp))⟩
end Go.Proofs.YtjmeakkmfeoigaaGreatDoor
namespace Go.Proofs.YtjmeakkmfeoigaaGreatDoor
open Go.ChangeShapes Go.WideShapes Go.ChangeAt Go.RowKit
set_option maxRecDepth 100000
def AtomAt (w : World) (b off : Nat) (a : At) : Prop :=
 ∃ vs vt, w.cell? ⟨b, off, none⟩ = some (.int .i64 a.k) ∧ w.cell? ⟨b, off + 1, none⟩ = some vs ∧ w.cell? ⟨b, off + 2, none⟩ = some vt ∧ w.cell? ⟨b, off + 3, none⟩ = some (.int .i64 a.n) ∧ Reads w vs a.s ∧ Reads w vt a.t
def ReadsA (w : World) (v : Value) (ats : List At) : Prop :=
 (∃ ao cap, v = .slice ao 0 cap ∧ ats = []) ∨ (∃ b off cap, v = .slice (some ⟨b, off, none⟩) ats.length cap ∧ b < w.heap.size ∧ 0 < ats.length ∧ (ats.length ≤ 9223372036854775807 ∧ ats.length ≤ cap) ∧ ∀ i a, ats[i]? = some a → AtomAt w b (off + i * 4) a)
theorem AtomAt.below {w w' : World} {b off : Nat} {a : At} (h : AtomAt w b off a) (hB : b < w.heap.size) (hb : Below w.heap.size w w') : AtomAt w' b off a := by
 obtain ⟨vs, vt, h1, h2, h3, h4, h5, h6⟩ := h
 exact ⟨vs, vt, by rw [hb.cell hB]; exact h1, by rw [hb.cell hB]; exact h2, by rw [hb.cell hB]; exact h3, by rw [hb.cell hB]; exact h4, h5.below hb, h6.below hb⟩
theorem ReadsA.below {w w' : World} {v : Value} {ats : List At} (h : ReadsA w v ats) (hb : Below w.heap.size w w') : ReadsA w' v ats := by
 rcases h with h | ⟨b, off, cap, h1, h2, h3, h4, h5⟩
 ·exact Or.inl h
 ·exact Or.inr ⟨b, off, cap, h1, Nat.lt_of_lt_of_le h2 hb.size, h3, h4, fun i a ha => (h5 i a ha).below h2 hb⟩
theorem ReadsA.slice {w : World} {v : Value} {ats : List At} (h : ReadsA w v ats) : ∃ ao cap, v = .slice ao ats.length cap ∧ ats.length ≤ 9223372036854775807 := by
 rcases h with ⟨ao, cap, rfl, rfl⟩ | ⟨b, off, cap, rfl, _, _, h, _⟩
 ·exact ⟨ao, cap, rfl, by decide⟩
 ·exact ⟨_, cap, rfl, h.1⟩
theorem ftakes_any (s : Int) (w : World) :
    Calls Tryz.prog 38 #[.int .i64 s] w (Sk w (.int .i64 (takesF s))) := by
 by_cases h5 : s = 10
 ·subst h5
  go_enter Tryz.func38, Tryz.ntmps38
  go_wp2
  go_ret
  exact ⟨rfl, rfl⟩
 by_cases h6 : s = 11
 ·subst h6
  go_enter Tryz.func38, Tryz.ntmps38
  go_wp2
  go_ret
  exact ⟨rfl, rfl⟩
 by_cases h7 : s = 13
 ·subst h7
  go_enter Tryz.func38, Tryz.ntmps38
  go_wp2
  go_ret
  exact ⟨rfl, rfl⟩
 by_cases h8 : s = 12
 ·subst h8
  go_enter Tryz.func38, Tryz.ntmps38
  go_wp2
  go_ret
  exact ⟨rfl, rfl⟩
 have e : takesF s = 0 := by unfold takesF; rw [if_neg (by omega), if_neg h8]
 rw [e]
 clear e
 have h5' : (s == 10) = false := by simpa using h5
 have h6' : (s == 11) = false := by simpa using h6
 have h7' : (s == 13) = false := by simpa using h7
 have h8' : (s == 12) = false := by simpa using h8
 clear h5 h6 h7 h8
 go_enter Tryz.func38, Tryz.ntmps38
 go_wp2
 go_ret
 exact ⟨rfl, rfl⟩
theorem tooMany_any (a s : Int) (w : World) :
    Calls Tryz.prog 35 #[.int .i64 a, .int .i64 s] w (Sk w (.bool (decide (6 < a) || decide (20 < s)))) := by
 by_cases h1 : 6 < a
 ·go_enter Tryz.func35, Tryz.ntmps35
  go_wp2
  go_ret
  exact ⟨by simp [h1], rfl⟩
 ·by_cases h2 : 20 < s
  ·go_enter Tryz.func35, Tryz.ntmps35
   go_wp2
   go_ret
   exact ⟨by simp, rfl⟩
  ·go_enter Tryz.func35, Tryz.ntmps35
   go_wp2
   go_ret
   exact ⟨by simp [h1, h2], rfl⟩
theorem fnoSign_any (m cap P : Nat) (ao : Option Addr) (s : Int) (w : World) (hP : w.cell? ⟨P, 0, none⟩ = some (.slice ao m cap)) :
    Calls Tryz.prog 37 #[.int .i64 s, .pointer (some ⟨P, 0, none⟩)] w (Sk w (.bool (!signF m s))) := by
 have HT : Hid (∀ W, Calls Tryz.prog 38 #[.int .i64 s] W (Sk W (.int .i64 (takesF s)))) := fun W => ftakes_any s W
 by_cases h0 : takesF s = 0
 ·rw [h0] at HT
  by_cases h1 : s < 0
  ·have e : signF m s = false := by simp [signF, h0, h1]
   rw [e]
   clear e h0
   go_enter Tryz.func37, Tryz.ntmps37
   go_wp2_with (go_at_call 38; refine (HT.out _).mono ?_; rintro e w' ⟨rfl, rfl⟩)
   go_ret
   exact ⟨rfl, rfl⟩
  ·by_cases h2 : (m : Int) ≤ s
   ·have e : signF m s = false := by simp [signF, h0, h2]
    rw [e]
    clear e h0
    go_enter Tryz.func37, Tryz.ntmps37
    go_wp2_with (go_at_call 38; refine (HT.out _).mono ?_; rintro e w' ⟨rfl, rfl⟩)
    go_ret
    exact ⟨rfl, rfl⟩
   ·have e : signF m s = true := by simp [signF, h1, h2]
    rw [e]
    clear e h0
    go_enter Tryz.func37, Tryz.ntmps37
    go_wp2_with (go_at_call 38; refine (HT.out _).mono ?_; rintro e w' ⟨rfl, rfl⟩)
    go_ret
    exact ⟨back_b (by simp; omega), rfl⟩
 ·have e : signF m s = true := by simp [signF, h0]
  rw [e]
  clear e
  have h0' : (takesF s == 0) = false := by simpa using h0
  clear h0
  go_enter Tryz.func37, Tryz.ntmps37
  go_wp2_with (go_at_call 38; refine (HT.out _).mono ?_; rintro e w' ⟨rfl, rfl⟩)
  go_ret
  exact ⟨rfl, rfl⟩
def firstBadF (m : Nat) : List Int → Nat → Int
 | [], _ => -1
 | s :: l, k => if signF m s = true then firstBadF m l (k + 1) else k
theorem firstBadF_lt (m : Nat) (t : List Int) (k : Nat) : (firstBadF m t k < 0 ↔ t.all (signF m) = true) ∧ -1 ≤ firstBadF m t k := by
 induction t generalizing k with
 | nil => exact ⟨⟨fun _ => rfl, fun _ => show (-1 : Int) < 0 by decide⟩, Int.le_refl _⟩
 | cons s l ih =>
  unfold firstBadF
  by_cases h : signF m s = true
  ·rw [if_pos h]; simpa [h] using ih (k + 1)
  ·rw [if_neg h]; simp only [List.all_cons, h]; simp
theorem firstBadF_drop (m : Nat) (t : List Int) {k : Nat} (hk : k < t.length) : firstBadF m (t.drop k) k = if signF m (t.getD k 0) = true then firstBadF m (t.drop (k + 1)) (k + 1) else k := by
 rw [List.drop_eq_getElem_cons hk]
 simp [firstBadF, List.getElem?_eq_getElem hk]
theorem findexFunc_any (m mcap P : Nat) (ao : Option Addr) (b off cap : Nat) (t : List Int) (w : World) (hl : t.length ≤ 9223372036854775807) (hP : w.cell? ⟨P, 0, none⟩ = some (.slice ao m mcap)) (hc : ∀ k, k < t.length → w.cell? ⟨b, off + k, none⟩ = some (.int .i64 (t.getD k 0))) :
    Calls Tryz.prog 70 #[.slice (some ⟨b, off, none⟩) t.length cap, .func (.func 37) #[] #[.pointer (some ⟨P, 0, none⟩)]] w (Sk w (.int .i64 (firstBadF m t 0))) := by
 have HF : Hid (∀ {k : Nat}, k < t.length → firstBadF m (t.drop k) k = if signF m (t.getD k 0) = true then firstBadF m (t.drop (k + 1)) (k + 1) else k) := fun {_} h => firstBadF_drop m t h
 have HC := hide hc
 clear hc
 have HP := hide hP
 clear hP
 obtain ⟨n, hn⟩ := nm t.length
 rw [← hn] at hl ⊢
 have HN := hide hn
 clear hn
 go_enter Tryz.func70, Tryz.ntmps70
 go_wp2
 go_loop [8] (fun i => ∃ k : Nat, k ≤ n ∧ i = .int .i64 k ∧ firstBadF m (t.drop k) k = firstBadF m t 0) (fun i => n - (intOf i).toNat)
 case atStart => exact ⟨0, Nat.zero_le _, rfl, rfl⟩
 case round =>
  obtain ⟨k, hk, rfl, hF⟩ := hrel
  have HK := hide hF
  clear hF
  by_cases hlt : k < n
  ·obtain ⟨s, hs⟩ := nm (t.getD k 0)
   have hc := HC.out k (by rw [← HN.out]; exact hlt)
   rw [← hs] at hc
   have HS := hide hs
   clear hs
   have HD : Hid (firstBadF m (t.drop k) k = if signF m s = true then firstBadF m (t.drop (k + 1)) (k + 1) else k) := by
    have := HF.out (k := k) (by rw [← HN.out]; exact hlt)
    rw [← HS.out] at this; exact this
   by_cases hb : signF m s = true
   ·have HD' : Hid (firstBadF m (t.drop (k + 1)) (k + 1) = firstBadF m t 0) := by
     have h1 := HD.out
     rw [if_pos hb] at h1
     exact h1.symm.trans HK.out
    go_wp2_with (go_at_call 37; refine (fnoSign_any m mcap P ao _ _ HP.out).mono ?_; rintro e w' ⟨rfl, rfl⟩)
    go_round
    case rel => exact ⟨k + 1, by omega, by go_num, HD'.out⟩
    case measure => simp [intOf]; omega
   ·have HD' : Hid ((k : Int) = firstBadF m t 0) := by
     have h1 := HD.out
     rw [if_neg hb] at h1
     exact h1.symm.trans HK.out
    have hb' : signF m s = false := by simpa using hb
    clear hb
    go_wp2_with (go_at_call 37; refine (fnoSign_any m mcap P ao _ _ HP.out).mono ?_; rintro e w' ⟨rfl, rfl⟩)
    go_ret
    exact ⟨back_i HD'.out, rfl⟩
  ·have HE : Hid (firstBadF m t 0 = -1) := by
    have h1 := HK.out
    rw [List.drop_eq_nil_of_le (by have := HN.out; omega)] at h1
    exact h1.symm
   go_wp2
   go_ret
   exact ⟨back_i HE.out.symm, rfl⟩
theorem fcontainsFunc_any (m mcap P : Nat) (ao : Option Addr) (b off cap : Nat) (t : List Int) (w : World) (hl : t.length ≤ 9223372036854775807) (hP : w.cell? ⟨P, 0, none⟩ = some (.slice ao m mcap)) (hc : ∀ k, k < t.length → w.cell? ⟨b, off + k, none⟩ = some (.int .i64 (t.getD k 0))) :
    Calls Tryz.prog 39 #[.slice (some ⟨b, off, none⟩) t.length cap, .func (.func 37) #[] #[.pointer (some ⟨P, 0, none⟩)]] w (Sk w (.bool (!t.all (signF m)))) := by
 have c := findexFunc_any m mcap P ao b off cap t w hl hP hc
 clear hc hP
 obtain ⟨h1, h2⟩ := firstBadF_lt m t 0
 obtain ⟨n, hn⟩ := nm (firstBadF m t 0)
 rw [← hn] at c h1 h2
 clear hn
 by_cases h : t.all (signF m) = true
 ·obtain rfl : n = -1 := by have := h1.2 h; omega
  rw [h]
  clear h1 h2 h
  go_enter Tryz.func39, Tryz.ntmps39
  go_wp2_with (go_at_call 70; refine c.mono ?_; rintro e w' ⟨rfl, rfl⟩)
  go_ret
  exact ⟨rfl, rfl⟩
 ·have h0 : 0 ≤ n := by
   rcases Int.lt_or_le n 0 with h' | h'
   ·exact absurd (h1.1 h') h
   ·exact h'
  have h' : t.all (signF m) = false := by simpa using h
  rw [h']
  clear h1 h2 h h'
  go_enter Tryz.func39, Tryz.ntmps39
  go_wp2_with (go_at_call 70; refine c.mono ?_; rintro e w' ⟨rfl, rfl⟩)
  go_ret
  exact ⟨rfl, rfl⟩
theorem fisOne_any (b off cap : Nat) (t : List Int) (w : World) (hl : t.length ≤ 20) (hc : ∀ k, k < t.length → w.cell? ⟨b, off + k, none⟩ = some (.int .i64 (t.getD k 0))) :
    Calls Tryz.prog 40 #[.slice (some ⟨b, off, none⟩) t.length cap] w (Sk w (.bool (decide (cntF t 0 = some 1)))) := by
 have HC := hide hc
 clear hc
 obtain ⟨n, hn⟩ := nm t.length
 rw [← hn] at hl ⊢
 have HN := hide hn
 clear hn
 obtain ⟨R, hR⟩ := nm (decide (cntF t 0 = some 1))
 rw [← hR]
 have HR := hide hR
 clear hR
 go_enter Tryz.func40, Tryz.ntmps40
 go_wp2
 go_loop [3, 8] (fun c i => ∃ (k : Nat) (m : Int), k ≤ n ∧ i = .int .i64 k ∧ c = .int .i64 m ∧ cntF (t.take k) 0 = some m) (fun _ i => n - (intOf i).toNat)
 case atStart => exact ⟨0, 0, Nat.zero_le _, rfl, rfl, rfl⟩
 case round =>
  obtain ⟨k, m, hk, rfl, rfl, hm⟩ := hrel
  have HM := hide hm
  have hm0 : 0 ≤ m ∧ m ≤ 20 := by
   have := cntF_nonneg (Int.le_refl 0) hm
   simp at this
   omega
  clear hm
  by_cases hlt : k < n
  ·obtain ⟨s, hs⟩ := nm (t.getD k 0)
   have hc := HC.out k (by rw [← HN.out]; exact hlt)
   rw [← hs] at hc
   have HD : Hid (cntF (t.take (k + 1)) 0 = if m < takesF s then none else some (m + 1 - takesF s)) := by
    have := cntF_take_succ t (k := k) (by rw [← HN.out]; exact hlt) HM.out
    rw [← hs] at this; exact this
   clear hs
   have ht := takesF_range s
   by_cases hb : m < takesF s
   ·have HE : Hid (R = false) := by
     have h1 := HD.out
     rw [if_pos hb] at h1
     have h2 := cntF_take_none t (k + 1) h1
     have h3 := HR.out
     rw [h2] at h3
     exact h3.trans (by decide)
    go_wp2_with (go_at_call 38; refine (ftakes_any _ _).mono ?_; rintro e w' ⟨rfl, rfl⟩)
    go_ret
    exact ⟨back_b HE.out.symm, rfl⟩
   ·have HE : Hid (cntF (t.take (k + 1)) 0 = some (m + (1 - takesF s))) := by
     have h1 := HD.out
     rw [if_neg hb] at h1
     rw [show m + (1 - takesF s) = m + 1 - takesF s by omega]
     exact h1
    go_wp2_with (go_at_call 38; refine (ftakes_any _ _).mono ?_; rintro e w' ⟨rfl, rfl⟩)
    go_round
    case rel => exact ⟨k + 1, _, by omega, by go_num, rfl, HE.out⟩
    case measure => simp [intOf]; omega
  ·have HE : Hid (R = (m == 1)) := by
    have h1 := HM.out
    rw [List.take_of_length_le (by have := HN.out; omega)] at h1
    have h3 := HR.out
    rw [h1] at h3
    rw [h3]
    by_cases h : m = 1
    ·subst h; rfl
    ·rw [decide_eq_false (by simpa using h)]; exact (beq_eq_false_iff_ne.2 h).symm
   go_wp2
   go_ret
   exact ⟨back_b HE.out.symm, rfl⟩
end Go.Proofs.YtjmeakkmfeoigaaGreatDoor
namespace Go.Proofs.YtjmeakkmfeoigaaGreatDoor
open Go.ChangeShapes Go.WideShapes Go.ChangeAt Go.RowKit
def FormAt (w : World) (b off : Nat) (f : Fm) : Prop :=
 ∃ va vc, w.cell? ⟨b, off, none⟩ = some va ∧ w.cell? ⟨b, off + 1, none⟩ = some vc ∧ ReadsA w va f.ats ∧ Reads w vc f.c
def ReadsF (w : World) (v : Value) (fs : List Fm) : Prop :=
 (∃ ao cap, v = .slice ao 0 cap ∧ fs = []) ∨ (∃ b off cap, v = .slice (some ⟨b, off, none⟩) fs.length cap ∧ b < w.heap.size ∧ 0 < fs.length ∧ (fs.length ≤ 9223372036854775807 ∧ fs.length ≤ cap) ∧ ∀ i f, fs[i]? = some f → FormAt w b (off + i * 2) f)
theorem FormAt.below {w w' : World} {b off : Nat} {f : Fm} (h : FormAt w b off f) (hB : b < w.heap.size) (hb : Below w.heap.size w w') : FormAt w' b off f := by
 obtain ⟨va, vc, h0, h1, h2, h3⟩ := h
 exact ⟨va, vc, (hb.cell hB).trans h0, (hb.cell hB).trans h1, h2.below hb, h3.below hb⟩
theorem ReadsF.below {w w' : World} {v : Value} {fs : List Fm} (h : ReadsF w v fs) (hb : Below w.heap.size w w') : ReadsF w' v fs := by
 rcases h with h | ⟨b, off, cap, h1, h2, h3, h4, h5⟩
 ·exact Or.inl h
 ·exact Or.inr ⟨b, off, cap, h1, Nat.lt_of_lt_of_le h2 hb.size, h3, h4, fun i f hf => (h5 i f hf).below h2 hb⟩
theorem ReadsF.slice {w : World} {v : Value} {fs : List Fm} (h : ReadsF w v fs) : ∃ ao cap, v = .slice ao fs.length cap ∧ fs.length ≤ 9223372036854775807 := by
 rcases h with ⟨ao, cap, rfl, rfl⟩ | ⟨b, off, cap, rfl, _, _, h, _⟩
 ·exact ⟨ao, cap, rfl, by decide⟩
 ·exact ⟨_, cap, rfl, h.1⟩
theorem ReadsF.at {w : World} {b off n cap : Nat} {fs : List Fm} (h : ReadsF w (.slice (some ⟨b, off, none⟩) n cap) fs) {i : Nat} {f : Fm} (hf : fs[i]? = some f) : b < w.heap.size ∧ FormAt w b (off + i * 2) f := by
 rcases h with ⟨ao, cap', hv, h0⟩ | ⟨b', off', cap', hv, h2, _, _, h5⟩
 ·rw [h0] at hf; simp at hf
 ·obtain ⟨h1, _, _⟩ := Value.slice.inj hv
  obtain ⟨rfl, rfl, _⟩ := Addr.mk.inj (Option.some.inj h1)
  exact ⟨h2, h5 i f hf⟩
theorem ReadsF.place {w : World} {v : Value} {fs : List Fm} (h : ReadsF w v fs) (h0 : 0 < fs.length) : ∃ b off cap, v = .slice (some ⟨b, off, none⟩) fs.length cap := by
 rcases h with ⟨ao, cap', _, hz⟩ | ⟨b', off', cap', hv, _⟩
 ·rw [hz] at h0; simp at h0
 ·exact ⟨b', off', cap', hv⟩
end Go.Proofs.YtjmeakkmfeoigaaGreatDoor
namespace Go.Proofs.YtjmeakkmfeoigaaGreatDoor
open Go.ChangeShapes Go.WideShapes Go.ChangeAt Go.RowKit
theorem infoInt : (Tryz.prog.info? 3).map (fun i => (i.zero, i.size, i.bytes)) = some (some (.int .i64 0), 1, 8) := by kernel_rfl
theorem ownsRow_below {w w' : World} {base : Nat} {e : TypeId} {size : Nat} {v : Value} {n : Nat} {xs : List Value} (h : w.ownsRow base e size v n xs) (hb : Below w.heap.size w w') : w'.ownsRow base e size v n xs := by
 obtain ⟨h1, h2⟩ := h
 refine ⟨h1, ?_⟩
 rcases h2 with h2 | ⟨g, cap, cur, hv, hg, hh, r⟩
 ·exact .inl h2
 ·refine .inr ⟨g, cap, cur, hv, hg, ?_, r⟩
  rw [hb.block g (Array.getElem?_eq_some_iff.1 hh).1]; exact hh
theorem ownsRow_take {w : World} {base : Nat} {e : TypeId} {g cap n r : Nat} {xs : List Value} (h : w.ownsRow base e 1 (.slice (some ⟨g, 0, none⟩) n cap) n xs) (hr : r ≤ n) : w.ownsRow base e 1 (.slice (some ⟨g, 0, none⟩) r cap) r (xs.take r) := by
 obtain ⟨h1, h2⟩ := h
 rcases h2 with ⟨h0, _⟩ | ⟨g', cap', cur, hv, hg, hh, hn, hcap, hsz, htake⟩
 ·cases h0
 ·cases hv
  refine ⟨by rw [List.length_take]; omega, .inr ⟨g, cap, cur, rfl, hg, hh, by omega, hcap, hsz, ?_⟩⟩
  rw [← htake, List.take_take]
  congr 1
  omega
theorem ownsRow_int {w : World} {base : Nat} {e : TypeId} {g cap : Nat} {p : List Int} (h : w.ownsRow base e 1 (.slice (some ⟨g, 0, none⟩) p.length cap) p.length (p.map (Value.int .i64))) {j : Nat} (hj : j < p.length) : w.cell? ⟨g, j, none⟩ = some (.int .i64 (p.getD j 0)) := by
 rw [h.cellAt j (by omega)]
 simp [List.getElem?_eq_getElem hj]
theorem ownsRow_block {w : World} {base : Nat} {e : TypeId} {size g n cap : Nat} {xs : List Value} (h : w.ownsRow base e size (.slice (some ⟨g, 0, none⟩) n cap) n xs) : base ≤ g ∧ g < w.heap.size ∧ n ≤ cap := by
 rcases h.2 with ⟨h0, _⟩ | ⟨g', cap', cur, hv, hg, hh, hn, _⟩
 ·cases h0
 ·cases hv
  exact ⟨hg, (Array.getElem?_eq_some_iff.1 hh).1, hn⟩
theorem step_leaf (w : Wd) (p : List Int) (s : Int) (h : s ≤ 4) : w.step p s = p.take p.length ++ [w.made s []] := by
 unfold Wd.step restN
 rw [takes5 s (by omega), made_leaf w s _ h]; rfl
theorem step_one (w : Wd) (p : List Int) (h : 1 ≤ p.length) : w.step p 8 = p.take (p.length - 1) ++ [doN 8 w.u (p.getD (p.length - 1) 0) (p.getD (p.length - 1) 0)] := by
 unfold Wd.step restN
 rw [takes1, made_do w 8 _ (by omega)]
 have e : (p.drop (p.length - 1)) = [p.getD (p.length - 1) 0] := by
  rw [List.drop_eq_getElem_cons (by omega), List.drop_eq_nil_of_le (by omega)]
  simp [List.getElem?_eq_getElem (show p.length - 1 < p.length by omega)]
 simp only [show (1 : Int).toNat = 1 from rfl, e]; rfl
theorem step_two (w : Wd) (p : List Int) (s : Int) (h5 : 5 ≤ s) (h7 : s ≤ 7) (h : 2 ≤ p.length) : w.step p s = p.take (p.length - 2) ++ [doN s w.u (p.getD (p.length - 2) 0) (p.getD (p.length - 2 + 1) 0)] := by
 unfold Wd.step restN
 rw [takes2 s h5 h7, made_do w s _ h5]
 have e : (p.drop (p.length - 2)) = [p.getD (p.length - 2) 0, p.getD (p.length - 2 + 1) 0] := by
  rw [List.drop_eq_getElem_cons (by omega), List.drop_eq_getElem_cons (by omega), List.drop_eq_nil_of_le (by omega)]
  simp [List.getElem?_eq_getElem (show p.length - 2 < p.length by omega), List.getElem?_eq_getElem (show p.length - 2 + 1 < p.length by omega)]
 simp only [show (2 : Int).toNat = 2 from rfl, e]; rfl
theorem work_rel {w1 wr wm w2 : World} {K : Nat} {v v' : Value} {p q : List Int} {r : Nat} {X : Int} (hK : K ≤ wr.heap.size) (hb : Below K w1 wr) (hm : Below wr.heap.size wr wm)
    (hown : w2.ownsRow K 3 1 v' (r + 1) (((p.take r).map (Value.int .i64)) ++ [.int .i64 X])) (hv : ∀ k, v.ownBlock = some k → K ≤ k)
    (hg : (wm.alloc (.cells #[.int .i64 X] 3)).grownBy w2 v.ownBlock) (hr : r ≤ p.length) (hq : q = p.take r ++ [X]) :
    w2.ownsRow K 3 1 v' q.length (q.map (Value.int .i64)) ∧ Below K w1 w2 ∧ K ≤ w2.heap.size := by
 have hs : wr.heap.size ≤ wm.heap.size := hm.size
 have e1 : q.length = r + 1 := by rw [hq]; simp; omega
 have e2 : q.map (Value.int .i64) = ((p.take r).map (Value.int .i64)) ++ [.int .i64 X] := by rw [hq]; simp
 have b1 : Below K w1 (wm.alloc (.cells #[.int .i64 X] 3)) := (hb.trans (hm.mono hK)).alloc (by omega) _
 have b2 : Below K w1 w2 := b1.grown hg (by simp; omega) hv
 refine ⟨by rw [e1, e2]; exact hown, b2, ?_⟩
 have := hg.size
 simp at this
 omega
end Go.Proofs.YtjmeakkmfeoigaaGreatDoor