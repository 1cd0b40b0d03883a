/-
  Facts and contracts that the statement leans on.
-/
import Derived.Test.YtjmeakkmfeoigaaGreatDoorLibT14
import Derived.Lib.RowBridge
namespace Go.Proofs.YtjmeakkmfeoigaaGreatDoor
open Go.ChangeShapes Go.WideShapes Go.ChangeAt Go.RowKit
open Go.Shelf
set_option maxRecDepth 100000
theorem reads_row {w : World} {v : Value} {t : List Int} (h : Reads w v t) : ∃ o cap, v = .slice o t.length cap ∧ (⟨o, t.length, cap, t.map (Value.int .i64)⟩ : RowV).Lies w := by
 rcases h with ⟨ao, cap, rfl, rfl⟩ | ⟨b, off, cap, rfl, hB, h0, _, hc⟩
 ·exact ⟨ao, cap, rfl, by simp, by simp, Or.inl rfl⟩
 ·refine ⟨_, cap, rfl, by simp, ?_, Or.inr ⟨b, off, rfl, hB, fun j u hu => ?_⟩⟩
  ·intro u hu
   obtain ⟨s, _, rfl⟩ := List.mem_map.1 hu; rfl
  ·have hu' : (t.map (Value.int .i64))[j]? = some u := hu
   rw [List.getElem?_map] at hu'
   cases hcj : t[j]? with
   | none => rw [hcj] at hu'; cases hu'
   | some s =>
    rw [hcj] at hu'
    have hjl := (List.getElem?_eq_some_iff.1 hcj).1
    rw [hc j hjl, List.getD_eq_getElem?_getD, hcj]
    simpa using hu'
def memsOf (t : List Int) (h : ∀ m ∈ t, m.natAbs ≤ 6) : List Mem := t.attach.map (fun x => ⟨x.1, h x.1 x.2⟩)
theorem memsOf_val (t : List Int) (h : ∀ m ∈ t, m.natAbs ≤ 6) : (memsOf t h).map (·.1) = t := by
 unfold memsOf
 rw [List.map_map]
 exact List.attach_map_subtype_val t
theorem memsOf_len (t : List Int) (h : ∀ m ∈ t, m.natAbs ≤ 6) : (memsOf t h).length = t.length := by simp [memsOf]
theorem get_val (d : Array Mem) (j : Nat) (hj : j < d.size) : (d.toList.map (·.1)).getD j 0 = (d[j]!).1 := by
 rw [List.getD_eq_getElem?_getD, List.getElem?_map]
 simp [hj]
theorem holds_mems {w : World} {g cap n base : Nat} {t : List Int} {e : TypeId} (h : ∀ m ∈ t, m.natAbs ≤ 6) (ho : w.ownsRow base e 1 (.slice (some ⟨g, 0, none⟩) n cap) n (t.map (Value.int .i64))) (hn : n = t.length) : Sort.Holds encM w g 0 (memsOf t h).toArray := by
 intro j hj
 have hj' : j < t.length := by simpa [memsOf_len] using hj
 refine ⟨?_, by rw [Nat.zero_add]; exact ho.frozenAt j⟩
 rw [Nat.zero_add, ho.cellAt j (by omega)]
 have e1 : ((memsOf t h).toArray[j]!).1 = t.getD j 0 := by
  have := get_val (memsOf t h).toArray j hj
  rw [← this]
  show ((memsOf t h).map (·.1)).getD j 0 = _
  rw [memsOf_val]
 unfold encM
 rw [e1, List.getElem?_map, List.getD_eq_getElem?_getD, List.getElem?_eq_getElem hj']
 rfl
theorem holds_ints {w : World} {g : Nat} {d : Array Mem} (h : Sort.Holds encM w g 0 d) : Sort.Holds (Value.int .i64) w g 0 (d.toList.map (·.1)).toArray := by
 intro j hj
 have hj' : j < d.size := by simpa using hj
 have := h j hj'
 refine ⟨?_, this.2⟩
 rw [this.1]
 unfold encM
 have e := get_val d j hj'
 rw [← e]
 simp [hj']
theorem sort_none (a : Option Addr) (cap : Nat) (fv : Value) (w : World) : Calls Tryz.prog 178 #[.slice a 0 cap, fv] w fun e w' => e = .returned (.tuple #[]) ∧ w' = w :=
 AnyF.slices_SortFunc_none Tryz.laysSort0 a cap fv w
theorem compact_none (a : Option Addr) (cap : Nat) (w : World) : Calls Tryz.prog 181 #[.slice a 0 cap] w fun e w' => e = .returned (.slice a 0 cap) ∧ w' = w :=
 AnyG.slices_Compact_int_empty Tryz.laysCompact a cap w
theorem compact_some (g cap : Nat) (zs : List Int) (w : World) (hH : Sort.Holds (Value.int .i64) w g 0 zs.toArray) (hsz : zs.length ≤ 9223372036854775807) (hcap : zs.length ≤ cap) :
    Calls Tryz.prog 181 #[.slice (some ⟨g, 0, none⟩) zs.length cap] w fun e w' => e = .returned (.slice (some ⟨g, 0, none⟩) (Lib.compact zs).length cap) ∧ ∃ q, w' = Sort.putRow (Value.int .i64) (Sort.ahead w q) g 0 (Lib.compact zs ++ List.replicate (zs.length - (Lib.compact zs).length) 0).toArray :=
 AnyG.slices_Compact_int Tryz.laysCompact g 0 cap zs w hH hsz hcap
theorem sort_some (g cap : Nat) (D : Array Mem) (w : World) (hH : Sort.Holds encM w g 0 D) (hg : g < w.heap.size) (hs : D.size < 4611686018427387904) :
    Calls Tryz.prog 178 #[.slice (some ⟨g, 0, none⟩) D.size cap, .func (.func 179) #[] #[]] w fun e w' => e = .returned (.tuple #[]) ∧ ∃ d' q os, Sort.PermIn 0 D.size D d' ∧ Sort.SortedIn (ltOf farM) 0 D.size d' ∧ w' = sortWorld encM w g 0 q d' os :=
 have e71 : ∀ args w, (callFunc 179 args).run Tryz.prog w = .ok (.enter 179 args) w := enters_of Tryz.func179 (by kernel_rfl) rfl
 Any.slices_SortFunc Tryz.laysSort encM (fun _ => rfl) farM farM_swo 179 #[] g 0 cap D w e71 (fun m os dk hs x y => (far_any x.1 y.1 x.2 y.2 _).mono fun e w' ⟨h1, h2⟩ => ⟨h1, 0, #[], by rw [h2]; simp [World.drewN]⟩) hH hg hs
set_option maxHeartbeats 4000000 in
theorem joined_any (vc vd : Value) (c d : List Int) (M : Nat) (hM : M ≤ 6) (w : World) (hc : cubeOk M c) (hd : cubeOk M d) (hC : Reads w vc c) (hD : Reads w vd d) :
    Calls Tryz.prog 149 #[vc, vd] w fun e w' => ∃ v r, e = .returned v ∧ RS (fun b => w.heap.size ≤ b) w' v r ∧ ((∀ m, m ∈ r ↔ m ∈ c ++ d) ∧ (bothWays (c ++ d) = false → r = joinC c d)) ∧ Below w.heap.size w w' := by
 have hc6 := cube_len hc
 have hd6 := cube_len hd
 have hmem : ∀ m ∈ c ++ d, m.natAbs ≤ 6 := by
  intro m hm
  rcases List.mem_append.1 hm with h | h
  ·have := hc.1 m h; omega
  ·have := hd.1 m h; omega
 obtain ⟨co, ccap, rfl, lc⟩ := reads_row hC
 obtain ⟨eo, ecap, rfl, ld⟩ := reads_row hD
 obtain ⟨w1, hw1⟩ := nm (w.alloc (.cells #[.slice co c.length ccap, .slice eo d.length ecap] 27))
 have HB1 : Hid (Below w.heap.size w w1 ∧ w1.heap.size = w.heap.size + 1) := by unfold Hid; rw [hw1]; exact ⟨below_alloc1 _ _, by simp⟩
 have HCo : Hid (Calls Tryz.prog 50 #[.slice (some ⟨w.heap.size, 0, none⟩) 2 2] w1 fun e w' => ∃ v, e = .returned v ∧ w'.ownsRow w1.heap.size 3 1 v (c.length + d.length) ((c ++ d).map (Value.int .i64)) ∧ Below w1.heap.size w1 w') := by
  have h := concatV1 [⟨co, c.length, ccap, c.map (Value.int .i64)⟩, ⟨eo, d.length, ecap, d.map (Value.int .i64)⟩] w.heap.size 2 w1 (by simp) (by have := HB1.out.2; omega) (fun k r hk => ?_) (fun r hr => ?_) (by simp [manyV]; omega)
  ·have e1 : manyV [⟨co, c.length, ccap, c.map (Value.int .i64)⟩, ⟨eo, d.length, ecap, d.map (Value.int .i64)⟩] = c.length + d.length := by simp [manyV]
   have e2 : allV [⟨co, c.length, ccap, c.map (Value.int .i64)⟩, ⟨eo, d.length, ecap, d.map (Value.int .i64)⟩] = (c ++ d).map (Value.int .i64) := by simp [allV]
   rw [e1, e2] at h
   exact h
  ·match k, hk with
   | 0, hk => simp at hk; subst hk; rw [hw1]; simp
   | 1, hk => simp at hk; subst hk; rw [hw1]; simp
  ·simp at hr
   rcases hr with rfl | rfl
   ·exact lc.below HB1.out.1
   ·exact ld.below HB1.out.1
 have HJ : Hid (∀ (e : Array Int), e.toList.Perm (c ++ d) → (∀ i j, i < j → j < e.size → (e[i]!).natAbs ≤ (e[j]!).natAbs) → (∀ m, m ∈ Lib.compact e.toList ↔ m ∈ c ++ d) ∧ (bothWays (c ++ d) = false → Lib.compact e.toList = joinC c d)) := fun e hp hs => joined_is hM hc hd hp hs
 have HL : Hid (c.length ≤ 6 ∧ d.length ≤ 6) := ⟨by omega, by omega⟩
 obtain ⟨nc, hnc⟩ := nm c.length
 obtain ⟨nd, hnd⟩ := nm d.length
 rw [← hnc, ← hnd] at HCo hw1 HL
 rw [← hnc, ← hnd]
 have HN : Hid (nc + nd = (c ++ d).length) := by unfold Hid; simp [hnc, hnd]
 clear lc ld hc hd hC hD hc6 hd6 hnc hnd
 go_enter Tryz.func149, Tryz.ntmps149
 go_wp2_with fail
 rw [← hw1]
 clear hw1
 go_at_call 50
 refine HCo.out.mono ?_
 rintro e w2 ⟨v2, rfl, hown, hb⟩
 have HB2 : Hid (Below w.heap.size w w2 ∧ w1.heap.size ≤ w2.heap.size) := ⟨HB1.out.1.trans (hb.mono HB1.out.1.size), hb.size⟩
 have HO2 := hide hown
 clear hb hown HCo
 obtain ⟨n, hn⟩ := nm (nc + nd)
 rw [← hn] at HO2 HN
 have HNn := hide hn
 clear hn
 rcases Nat.eq_zero_or_pos n with h0 | h0
 ·subst h0
  have hnil : c ++ d = [] := List.eq_nil_of_length_eq_zero HN.out.symm
  obtain ⟨vo, vcap, rfl⟩ : ∃ vo vcap, v2 = .slice vo 0 vcap := by
   rcases HO2.out.2 with ⟨rfl, _⟩ | ⟨g, cap, cur, rfl, _⟩
   ·exact ⟨none, 0, rfl⟩
   ·exact ⟨_, cap, rfl⟩
  have HJ0 : Hid ((∀ m, m ∈ ([] : List Int) ↔ m ∈ c ++ d) ∧ (bothWays (c ++ d) = false → ([] : List Int) = joinC c d)) := by
   have := HJ.out #[] (by rw [hnil]) (by intro i j _ hj; simp at hj)
   have e : Lib.compact (#[] : Array Int).toList = [] := by simp [Lib.compact, Lib.compactUpTo]
   rw [e] at this
   exact this
  have HSo : Hid (∀ fv, Calls Tryz.prog 178 #[.slice vo 0 vcap, fv] w2 fun e w' => e = .returned (.tuple #[]) ∧ w' = w2) := fun fv => sort_none vo vcap fv w2
  have HCm : Hid (Calls Tryz.prog 181 #[.slice vo 0 vcap] w2 fun e w' => e = .returned (.slice vo 0 vcap) ∧ w' = w2) := compact_none vo vcap w2
  clear hnil HO2 HJ
  go_wp2_with (first
   | (go_at_call 178; refine (HSo.out _).mono ?_; rintro e w' ⟨rfl, rfl⟩)
   | (go_at_call 181; refine HCm.out.mono ?_; rintro e w' ⟨rfl, rfl⟩))
  go_ret
  exact ⟨_, [], rfl, Or.inl ⟨vo, vcap, rfl, rfl⟩, HJ0.out, HB2.out.1⟩
 ·obtain ⟨g, cap, rfl⟩ : ∃ g cap, v2 = .slice (some ⟨g, 0, none⟩) n cap := by
   rcases HO2.out.2 with ⟨_, hz⟩ | ⟨g, cap, cur, rfl, _⟩
   ·omega
   ·exact ⟨g, cap, rfl⟩
  obtain ⟨D, hD⟩ := nm ((memsOf (c ++ d) hmem).toArray)
  have hDs : D.size = n := by rw [hD, HN.out]; simp [memsOf_len]
  have hDl : (D.toList.map (·.1)) = c ++ d := by rw [hD]; exact memsOf_val _ hmem
  have hHo : Sort.Holds encM w2 g 0 D := by rw [hD]; exact holds_mems hmem HO2.out HN.out
  have hgl := HO2.out.lt g rfl
  have hnc : n ≤ cap := by
   rcases HO2.out.2 with ⟨h, _⟩ | ⟨g', cap', cur, h, _, _, hle, _⟩
   ·cases h
   ·cases h; exact hle
  have HSo : Hid (Calls Tryz.prog 178 #[.slice (some ⟨g, 0, none⟩) n cap, .func (.func 179) #[] #[]] w2 fun e w' => e = .returned (.tuple #[]) ∧ ∃ d' q os, Sort.PermIn 0 D.size D d' ∧ Sort.SortedIn (ltOf farM) 0 D.size d' ∧ w' = sortWorld encM w2 g 0 q d' os) := by
   have h := sort_some g cap D w2 hHo hgl.2 (by rw [hDs]; have := HL.out; have := HNn.out; omega)
   unfold Hid
   rw [hDs] at h ⊢
   exact h
  have HD : Hid (D.size = n ∧ D.toList.map (·.1) = c ++ d ∧ Sort.Holds encM w2 g 0 D) := ⟨hDs, hDl, hHo⟩
  have HG : Hid ((w1.heap.size ≤ g ∧ g < w2.heap.size) ∧ n ≤ cap) := ⟨hgl, hnc⟩
  have h12 : n ≤ 12 := by have := HL.out; have := HNn.out; omega
  clear hDs hDl hHo hgl hnc hD hmem HO2
  go_wp2_with fail
  go_at_call 178
  refine HSo.out.mono ?_
  rintro e w3 ⟨rfl, d', q, os, hperm, hsorted, hw3⟩
  obtain ⟨zs, hzs⟩ := nm (d'.toList.map (·.1))
  have hds : d'.size = D.size := hperm.1
  have hzl : zs.length = n := by rw [hzs]; simp [hds, HD.out.1]
  have hH3 : Sort.Holds encM w3 g 0 d' := by rw [hw3]; exact holds_sortWorld encM w2 g 0 q D d' os HG.out.1.2 HD.out.2.2 hds
  have hB3 : Below w1.heap.size w2 w3 := by rw [hw3]; exact below_sort HG.out.1.1 (by have := HG.out.1; omega)
  have hzp : zs.Perm (c ++ d) := by
   have h1 := hperm.2.2
   have e1 : (d'.extract 0 D.size).toList = d'.toList := by rw [← hds]; simp
   have e2 : (D.extract 0 D.size).toList = D.toList := by simp
   rw [e1, e2] at h1
   rw [hzs, ← HD.out.2.1]
   exact h1.map _
  have hzso : ∀ i j, i < j → j < zs.toArray.size → (zs.toArray[i]!).natAbs ≤ (zs.toArray[j]!).natAbs := by
   intro i j hij hj
   have hj' : j < d'.size := by rw [hds, HD.out.1, ← hzl]; simpa using hj
   have h1 := hsorted i j (Nat.zero_le _) hij (by rw [← hds]; exact hj')
   rw [farM_lt] at h1
   have g1 : ∀ k, k < d'.size → zs.toArray[k]! = (d'[k]!).1 := fun k hk => by
    have := get_val d' k hk
    rw [← hzs] at this
    rw [← this]
    simp [hzl, ← HD.out.1, ← hds, hk]
   rw [g1 i (by omega), g1 j hj']
   simpa using h1
  have HZ := hide (HJ.out zs.toArray hzp hzso)
  have HCm : Hid (Calls Tryz.prog 181 #[.slice (some ⟨g, 0, none⟩) n cap] w3 fun e w' => e = .returned (.slice (some ⟨g, 0, none⟩) (Lib.compact zs).length cap) ∧ ∃ q, w' = Sort.putRow (Value.int .i64) (Sort.ahead w3 q) g 0 (Lib.compact zs ++ List.replicate (zs.length - (Lib.compact zs).length) 0).toArray) := by
   have h := compact_some g cap zs w3 (by rw [hzs]; exact holds_ints hH3) (by omega) (by rw [hzl]; exact HG.out.2)
   rw [hzl] at h
   rw [← hzl] at h ⊢
   rw [hzl] at h ⊢
   exact h
  have HH3 : Hid (Sort.Holds (Value.int .i64) w3 g 0 zs.toArray ∧ (zs.length = n ∧ g < w3.heap.size)) := ⟨by rw [hzs]; exact holds_ints hH3, hzl, by have := hB3.size; have := HG.out.1; omega⟩
  have HB3 := hide (HB2.out.1.trans (hB3.mono HB1.out.1.size))
  clear hperm hsorted hw3 hzs hds hzl hH3 hB3 hzp hzso HSo HJ
  go_wp2_with fail
  go_at_call 181
  refine HCm.out.mono ?_
  rintro e w4 ⟨rfl, q2, hw4⟩
  obtain ⟨r, hr⟩ := nm (Lib.compact zs)
  rw [← hr] at HZ hw4 ⊢
  have hrl : r.length ≤ zs.length := by rw [hr]; exact Lib.compact_length_le zs
  have hr0 : 0 < r.length := by
   have hne : c ++ d ≠ [] := fun e => by have := HN.out; rw [e] at this; simp at this; omega
   obtain ⟨m, hm⟩ := List.exists_mem_of_ne_nil _ hne
   exact List.length_pos_of_mem ((HZ.out.1 m).2 hm)
  have HR4 : Hid (RS (fun b => w.heap.size ≤ b) w4 (.slice (some ⟨g, 0, none⟩) r.length cap) r ∧ Below w.heap.size w w4) := by
   refine ⟨Or.inr ⟨g, 0, cap, rfl, ⟨?_, ?_⟩, hr0, ⟨by have := HH3.out.2.1; omega, by have := HH3.out.2.1; have := HG.out.2; omega⟩, fun k hk => ?_⟩, ?_⟩
   ·have := HB1.out.2; have := HG.out.1; omega
   ·rw [hw4]; simp [Sort.ahead]; exact HH3.out.2.2
   ·rw [hw4]
    have hsz : (r ++ List.replicate (zs.length - r.length) 0).toArray.size = zs.toArray.size := by simp; omega
    have h := Sort.cell?_putRow (Value.int .i64) (Sort.ahead w3 q2) g 0 zs.toArray (r ++ List.replicate (zs.length - r.length) 0).toArray (Sort.holds_ahead _ w3 q2 g 0 _ HH3.out.1) hsz k (by rw [hsz]; simp; omega)
    rw [h]
    congr 2
    rw [List.getD_eq_getElem?_getD, getElem!_pos _ k (by rw [hsz]; simp; omega)]
    simp [List.getElem_append_left hk, hk]
   ·rw [hw4]
    exact HB3.out.trans (below_put (by have := HG.out.1; have := HB1.out.2; omega))
  clear hw4 hr hrl hr0
  go_wp2
  go_ret
  exact ⟨_, r, rfl, HR4.out.1, HZ.out, HR4.out.2⟩
end Go.Proofs.YtjmeakkmfeoigaaGreatDoor
namespace Go.Proofs.YtjmeakkmfeoigaaGreatDoor
open Go.ChangeShapes Go.WideShapes Go.ChangeAt Go.RowKit
set_option maxRecDepth 100000
def withC (L : List (List Int)) (c : List Int) : List (List Int) := if (bothWays c || L.contains c) = true then L else L ++ [c]
theorem any_beq (L : List (List Int)) (c : List Int) : L.any (fun t => t == c) = L.contains c := by
 rw [Bool.eq_iff_iff]; simp
theorem grown_of_below {w w' : World} {r : Option Nat} (h : Below w.heap.size w w') : w.grownBy w' r := ⟨h.os, h.tape, h.output, h.size, fun k hk _ => h.block k hk⟩
theorem grown_trans {w w' w'' : World} {r : Option Nat} (h : w.grownBy w' r) (k : w'.grownBy w'' r) : w.grownBy w'' r :=
 ⟨k.os.trans h.os, k.tape.trans h.tape, k.output.trans h.output, Nat.le_trans h.size k.size, fun b hb hr => (k.block b (Nat.lt_of_lt_of_le hb h.size) hr).trans (h.block b hb hr)⟩
set_option maxHeartbeats 4000000 in
theorem with_any (S : Nat → Prop) (K : Nat) (v u : Value) (L : List (List Int)) (c : List Int) (w : World) (hK : K ≤ w.heap.size) (hown : Own2 S K w v L) (hu : RS (fun b => (S b ∨ K ≤ b) ∧ some b ≠ v.ownBlock) w u c) (hL : L.length ≤ 200) (hm : ∀ m ∈ c, m.natAbs ≤ 6) :
    Calls Tryz.prog 148 #[v, u] w fun e w' => ∃ v', e = .returned v' ∧ Own2 S K w' v' (withC L c) ∧ w.grownBy w' v.ownBlock := by
 obtain ⟨i0, hi, hz0, hz1, hz2⟩ := info_parts infoS
 obtain ⟨ao, acap, rfl, _⟩ := hu.slice
 obtain ⟨w1, hw1⟩ := nm (w.alloc (.cells #[.slice ao c.length acap] 27))
 have HB1 : Hid (Below w.heap.size w w1 ∧ w.heap.size < w1.heap.size) := by unfold Hid; rw [hw1]; exact ⟨below_alloc1 _ _, by simp⟩
 have HP : Hid (∀ W, Below w1.heap.size w1 W → W.cell? ⟨w.heap.size, 0, none⟩ = some (.slice ao c.length acap)) := fun W hW => by
  rw [hW.cell (show (⟨w.heap.size, 0, none⟩ : Addr).block < _ from HB1.out.2), hw1]; simp
 have HRu : Hid (∀ W, Below w1.heap.size w1 W → RS (fun b => (S b ∨ K ≤ b) ∧ some b ≠ v.ownBlock) W (.slice ao c.length acap) c) := fun W hW => (hu.kept (Kept.of_below HB1.out.1)).kept (Kept.of_below hW)
 have HO : Hid (∀ W, Below w1.heap.size w1 W → Own2 S K W v L) := fun W hW => (hown.below HB1.out.1).below hW
 have e1 : ∀ args w, (callFunc 173 args).run Tryz.prog w = .ok (.enter 173 args) w := enters_of Tryz.func173 (by kernel_rfl) rfl
 have e2 : ∀ args w, (callFunc 175 args).run Tryz.prog w = .ok (.enter 175 args) w := enters_of Tryz.func175 (by kernel_rfl) rfl
 have HA1 : Hid (∀ W, Below w1.heap.size w1 W → Calls Tryz.prog 39 #[.slice ao c.length acap, .func (.func 173) #[] #[.pointer (some ⟨w.heap.size, 0, none⟩)]] W (Bk W (.bool (bothWays c)))) := fun W hW =>
  anyI c _ w.heap.size _ (fun m => c.contains (-m)) W (HRu.out W hW).reads e1 (fun W' m hW' hmc => turns_any c _ w.heap.size m W' (hm m hmc) (HP.out W' (hW.trans (hW'.mono hW.size))) (HRu.out W' (hW.trans (hW'.mono hW.size))).reads)
 have HA2 : Hid (∀ W, Below w1.heap.size w1 W → Calls Tryz.prog 177 #[v, .func (.func 175) #[] #[.pointer (some ⟨w.heap.size, 0, none⟩)]] W (Bk W (.bool (L.contains c)))) := fun W hW => by
  rw [← any_beq]
  exact anyL _ L v w.heap.size _ (fun t => t == c) W ((HO.out W hW).reads (by omega)) e2 (fun W' x t hW' _ hx => sameC_any t c x _ w.heap.size W' (HP.out W' (hW.trans (hW'.mono hW.size))) hx (HRu.out W' (hW.trans (hW'.mono hW.size))).reads)
 clear e1 e2 hm hu
 obtain ⟨vo, vcap, hvf⟩ : ∃ vo vcap, v = .slice vo L.length vcap := by
  obtain ⟨xs, h1, _⟩ := hown
  rcases h1.2 with ⟨rfl, h0⟩ | ⟨g, cap, cur, rfl, _⟩
  ·exact ⟨none, 0, by rw [h0]⟩
  ·exact ⟨_, cap, rfl⟩
 clear hown
 obtain ⟨n, hn⟩ := nm c.length
 rw [← hn] at hw1 HP HRu HA1 ⊢
 clear hn
 obtain ⟨B1, hB1⟩ := nm (bothWays c)
 obtain ⟨B2, hB2⟩ := nm (L.contains c)
 have HWC : Hid (withC L c = if (B1 || B2) = true then L else L ++ [c]) := by unfold Hid withC; rw [hB1, hB2]
 rw [← hB1] at HA1
 rw [← hB2] at HA2
 clear hB1 hB2
 obtain ⟨l, hl⟩ := nm L.length
 have HLl : Hid (l = L.length ∧ l ≤ 200) := ⟨hl, by omega⟩
 rw [← hl] at hvf
 clear hl hL
 subst hvf
 have p0 := HP.out w1 (Below.refl _ _)
 rw [hw1] at p0
 go_enter Tryz.func148, Tryz.ntmps148
 go_wp2_with fail
 rw [← hw1]
 clear hw1 p0
 go_at_call 39
 refine (HA1.out w1 (Below.refl _ _)).mono ?_
 rintro e w2 ⟨rfl, hb⟩
 have HB2 := hide hb
 clear hb
 cases B1 with
 | true =>
  have HE : Hid (withC L c = L) := by unfold Hid; rw [HWC.out]; rfl
  go_wp2
  go_ret
  exact ⟨_, rfl, by rw [HE.out]; exact HO.out w2 HB2.out, grown_of_below (HB1.out.1.trans (HB2.out.mono HB1.out.1.size))⟩
 | false =>
  go_wp2_with fail
  go_at_call 177
  refine (HA2.out w2 HB2.out).mono ?_
  rintro e w3 ⟨rfl, hb⟩
  have HB3 := hide (HB2.out.trans (hb.mono HB2.out.size))
  clear hb HA1 HA2
  cases B2 with
  | true =>
   have HE : Hid (withC L c = L) := by unfold Hid; rw [HWC.out]; rfl
   go_wp2
   go_ret
   exact ⟨_, rfl, by rw [HE.out]; exact HO.out w3 HB3.out, grown_of_below (HB1.out.1.trans (HB3.out.mono HB1.out.1.size))⟩
  | false =>
   have HE : Hid (withC L c = L ++ [c]) := by unfold Hid; rw [HWC.out]; rfl
   have p0 := HP.out w3 HB3.out
   obtain ⟨w4, hw4⟩ := nm (w3.alloc (.cells #[.slice ao n acap] 27))
   have HB4 : Hid (Below w1.heap.size w1 w4 ∧ Below w.heap.size w w4) := by
    have : Below w1.heap.size w1 w4 := by rw [hw4]; exact HB3.out.trans ((below_alloc1 _ _).mono HB3.out.size)
    exact ⟨this, HB1.out.1.trans (this.mono HB1.out.1.size)⟩
   obtain ⟨xs, ho, hx⟩ := HO.out w4 HB4.out.1
   rw [← HLl.out.1] at ho
   have HOx := hide ho
   have HX := hide hx
   have hca : w4.cell? ((⟨w3.heap.size, 0, none⟩ : Addr).add 0) = some (.slice ao n acap) := by rw [hw4]; simp [Addr.add]
   have HCa : Hid (∀ j u, ([Value.slice ao n acap] : List Value)[j]? = some u → w4.cell? ((⟨w3.heap.size, 0, none⟩ : Addr).add j) = some u) := fun j u hu => by
    match j, hu with
    | 0, hu => simp at hu; subst hu; exact hca
   have HS4 : Hid (w4.heap.size = w3.heap.size + 1 ∧ K ≤ w4.heap.size) := ⟨by rw [hw4]; simp, by have := HB4.out.2.size; omega⟩
   clear ho hx hca
   go_wp2_with (first | (at_builtin; rw [← hw4]; refine wpList_append_lies _ rfl (.tmp 18) (.tmp 20) 94 rfl K 27 i0 (.slice none 0 0) 1 24 Tryz.underlying94 hi hz0 hz1 hz2 rfl (by decide) (.slice vo l vcap) l xs rfl HOx.out ⟨w3.heap.size, 0, none⟩ 1 1 [.slice ao n acap] rfl rfl HCa.out (by intro y hy; simp at hy; subst hy; rfl) (by decide) ?d3 ?d4 HS4.out.2 w4.heap.size rfl ?_))
   case d3 => have := HLl.out.2; unfold maxLen; omega
   case d4 => have := HLl.out.2; omega
   intro g cap w5 hown hgrow hat hlt
   have HG : Hid (w4.grownBy w5 (Value.slice vo l vcap).ownBlock) := by first | exact hgrow | (rw [hw4]; exact hgrow)
   have HAt : Hid ((Value.slice vo l vcap).ownBlock = some g ∨ g = w4.heap.size) := by first | exact hat | (rw [HS4.out.1]; exact hat)
   have HRr : Hid (Own2 S K w5 (.slice (some ⟨g, 0, none⟩) (l + 1) cap) (L ++ [c])) := by
    have h1 := HOx.out
    have e := HLl.out.1
    unfold Hid
    subst e
    exact Own2.push h1 HX.out (HRu.out w4 HB4.out.1) (by simpa using hown) HG.out HAt.out
   clear hown hgrow hat hlt
   go_wp2
   go_ret
   exact ⟨_, rfl, by rw [HE.out]; exact HRr.out, grown_trans (grown_of_below HB4.out.2) HG.out⟩
end Go.Proofs.YtjmeakkmfeoigaaGreatDoor
namespace Go.Proofs.YtjmeakkmfeoigaaGreatDoor
open Go.ChangeShapes Go.WideShapes Go.ChangeAt Go.RowKit
set_option maxRecDepth 100000
def OutC (S : Nat → Prop) (K : Nat) (w : World) (e : Ending) (o : Option (List (List Int))) : Prop :=
 match o with
 | none => e = .returned (.tuple #[.slice none 0 0, .iface 64 (.int .i64 4)])
 | some L => ∃ v, e = .returned (.tuple #[v, .nilIface]) ∧ RS2 (fun b => S b ∨ K ≤ b) w v L
theorem RS2.cellAt {S : Nat → Prop} {w : World} {v : Value} {L : List (List Int)} (h : RS2 S w v L) {b off n cap : Nat} (hv : v = .slice (some ⟨b, off, none⟩) n cap) {k : Nat} (hk : k < L.length) : ∃ o l cp, w.cell? ⟨b, off + k, none⟩ = some (.slice o l cp) ∧ RS S w (.slice o l cp) (L.getD k []) := by
 rcases h with ⟨_, _, _, rfl⟩ | ⟨b', off', cap', hv', _, _, _, hc⟩
 ·simp at hk
 ·rw [hv] at hv'
  cases hv'
  obtain ⟨u, hu, hr⟩ := hc k _ (List.getElem?_eq_getElem hk)
  obtain ⟨o, cp, rfl, _⟩ := hr.slice
  refine ⟨o, _, cp, hu, ?_⟩
  rw [List.getD_eq_getElem?_getD, List.getElem?_eq_getElem hk]; exact hr
theorem RS2.always {S : Nat → Prop} {w : World} {v : Value} {L : List (List Int)} {K : Nat} (h : RS2 S w v L) (hK : K = w.heap.size) {b off n cap : Nat} (hv : v = .slice (some ⟨b, off, none⟩) n cap) {k : Nat} (hk : k < L.length) : ∃ o l cp, ∀ W, Below K w W → W.cell? ⟨b, off + k, none⟩ = some (.slice o l cp) ∧ Reads W (.slice o l cp) (L.getD k []) := by
 obtain ⟨o, l, cp, hc, hr⟩ := h.cellAt hv hk
 subst hK
 refine ⟨o, l, cp, fun W hW => ⟨?_, hr.reads.below hW⟩⟩
 have hb : b < w.heap.size := by
  rcases h with ⟨_, _, _, rfl⟩ | ⟨b', off', cap', hv', hB, _⟩
  ·simp at hk
  ·rw [hv] at hv'; cases hv'; exact hB.2
 rw [hW.cell (show (⟨b, off + k, none⟩ : Addr).block < _ from hb)]; exact hc
theorem RS2.form {S : Nat → Prop} {w : World} {v : Value} {L : List (List Int)} (h : RS2 S w v L) (h0 : 0 < L.length) : ∃ b off cap, v = .slice (some ⟨b, off, none⟩) L.length cap := by
 rcases h with ⟨_, _, _, rfl⟩ | ⟨b', off', cap', hv', _⟩
 ·simp at h0
 ·exact ⟨_, _, _, hv'⟩
theorem Own2.form {S : Nat → Prop} {K : Nat} {w : World} {v : Value} {L : List (List Int)} (h : Own2 S K w v L) : ∃ o cap, v = .slice o L.length cap := by
 obtain ⟨xs, h1, _⟩ := h
 rcases h1.2 with ⟨rfl, h0⟩ | ⟨g, cap, cur, rfl, _⟩
 ·exact ⟨none, 0, by rw [h0]⟩
 ·exact ⟨_, cap, rfl⟩
theorem takeL_succ (t : List (List Int)) {k : Nat} (h : k < t.length) : t.take (k + 1) = t.take k ++ [t.getD k []] := by
 rw [List.take_add_one]; simp [List.getElem?_eq_getElem h]
theorem dropL (t : List (List Int)) {k : Nat} (h : k < t.length) : t.drop k = t.getD k [] :: t.drop (k + 1) := by
 rw [List.drop_eq_getElem_cons h]; simp [List.getElem?_eq_getElem h]
def rowsC (A B : List (List Int)) (i : Nat) : List (List Int) := (A.take i).foldl (andR B) []
def rowC (A B : List (List Int)) (i k : Nat) : List (List Int) := (B.take k).foldl (andS (A.getD i [])) (rowsC A B i)
theorem rowC_succ (A B : List (List Int)) (i : Nat) {k : Nat} (h : k < B.length) : rowC A B i (k + 1) = andS (A.getD i []) (rowC A B i k) (B.getD k []) := by
 unfold rowC; rw [takeL_succ B h, List.foldl_append]; rfl
theorem rowsC_succ (A B : List (List Int)) {i : Nat} (h : i < A.length) : rowsC A B (i + 1) = rowC A B i B.length := by
 unfold rowsC rowC; rw [takeL_succ A h, List.foldl_append, List.take_length]; rfl
theorem rowsC_all (A B : List (List Int)) : rowsC A B A.length = andC A B := by unfold rowsC andC; rw [List.take_length]
theorem rowC_len (A B : List (List Int)) {i k : Nat} (hi : i < A.length) : (rowC A B i k).length ≤ (andC A B).length := by
 have e1 : andR B (rowsC A B i) (A.getD i []) = (B.drop k).foldl (andS (A.getD i [])) (rowC A B i k) := by
  unfold andR rowC
  rw [← List.foldl_append, List.take_append_drop]
 have e2 : andC A B = (A.drop (i + 1)).foldl (andR B) (andR B (rowsC A B i) (A.getD i [])) := by
  unfold andC rowsC
  rw [← List.foldl_cons (f := andR B), ← dropL A hi, ← List.foldl_append, List.take_append_drop]
 rw [e2, e1]
 exact Nat.le_trans (andR_len (B.drop k) _ _) (andF_len _ _ _)
theorem capC_big {L : List (List Int)} (h : 40 < L.length) : capC L = none := by unfold capC; rw [if_pos h]
theorem capC_small {L : List (List Int)} (h : L.length ≤ 40) : capC L = some L := by unfold capC; rw [if_neg (by omega)]
theorem mem_getD {A : List (List Int)} {k : Nat} (h : k < A.length) : A.getD k [] ∈ A := by
 rw [List.getD_eq_getElem?_getD, List.getElem?_eq_getElem h]; exact List.getElem_mem h
set_option maxHeartbeats 8000000 in
theorem both_cubes (S : Nat → Prop) (va vb : Value) (A B : List (List Int)) (M : Nat) (hM : M ≤ 6) (w : World) (hA : ∀ c ∈ A, cubeOk M c) (hB : ∀ c ∈ B, cubeOk M c) (hRA : RS2 S w va A) (hRB : RS2 S w vb B) :
    Calls Tryz.prog 120 #[va, vb] w fun e w' => OutC S w.heap.size w' e (capC (andC A B)) ∧ Below w.heap.size w w' := by
 obtain ⟨ao, acap, hav, ha63⟩ := hRA.slice
 obtain ⟨bo, bcap, hbv, hb63⟩ := hRB.slice
 obtain ⟨K, hK⟩ := nm w.heap.size
 have HK := hide hK
 have HA : Hid (∀ k b off, k < A.length → ao = some ⟨b, off, none⟩ → ∃ o l cp, ∀ W, Below K w W → W.cell? ⟨b, off + k, none⟩ = some (.slice o l cp) ∧ Reads W (.slice o l cp) (A.getD k [])) := fun k b off hk e => hRA.always hK (by rw [hav, e]) hk
 have HB : Hid (∀ k b off, k < B.length → bo = some ⟨b, off, none⟩ → ∃ o l cp, ∀ W, Below K w W → W.cell? ⟨b, off + k, none⟩ = some (.slice o l cp) ∧ Reads W (.slice o l cp) (B.getD k [])) := fun k b off hk e => hRB.always hK (by rw [hbv, e]) hk
 have HAf : Hid (0 < A.length → ∃ b off, ao = some ⟨b, off, none⟩) := fun h0 => by
  obtain ⟨b, off, cap, e⟩ := hRA.form h0
  rw [hav] at e; cases e; exact ⟨b, off, rfl⟩
 have HBf : Hid (0 < B.length → ∃ b off, bo = some ⟨b, off, none⟩) := fun h0 => by
  obtain ⟨b, off, cap, e⟩ := hRB.form h0
  rw [hbv] at e; cases e; exact ⟨b, off, rfl⟩
 have HJ : Hid (∀ i k W vc vd, i < A.length → k < B.length → Reads W vc (A.getD i []) → Reads W vd (B.getD k []) → Calls Tryz.prog 149 #[vc, vd] W fun e w' => ∃ v r, e = .returned v ∧ RS (fun b => W.heap.size ≤ b) w' v r ∧ ((∀ m, m ∈ r ↔ m ∈ A.getD i [] ++ B.getD k []) ∧ (bothWays (A.getD i [] ++ B.getD k []) = false → r = joinC (A.getD i []) (B.getD k []))) ∧ Below W.heap.size W w') := fun i k W vc vd hi hk h1 h2 => joined_any vc vd (A.getD i []) (B.getD k []) M hM W (hA _ (mem_getD hi)) (hB _ (mem_getD hk)) h1 h2
 have HMm : Hid (∀ i k, i < A.length → k < B.length → ∀ m ∈ A.getD i [] ++ B.getD k [], m.natAbs ≤ 6) := fun i k hi hk m hm => by
  rcases List.mem_append.1 hm with h | h
  ·have := (hA _ (mem_getD hi)).1 m h; omega
  ·have := (hB _ (mem_getD hk)).1 m h; omega
 subst hav hbv
 rw [← hK]
 clear hRA hRB hA hB hK
 obtain ⟨na, hna⟩ := nm A.length
 obtain ⟨nb, hnb⟩ := nm B.length
 rw [← hna] at ha63 ⊢
 rw [← hnb] at hb63 ⊢
 have HN : Hid (na = A.length ∧ nb = B.length) := ⟨hna, hnb⟩
 clear hna hnb
 go_enter Tryz.func120, Tryz.ntmps120
 go_wp2_with fail
 go_loopw [6, 8, 10, 13] (fun v _ _ i wr => ∃ k : Nat, k ≤ na ∧ i = .int .i64 k ∧ Own2 S K wr v (rowsC A B k) ∧ (rowsC A B k).length ≤ 40 ∧ Below K w wr ∧ K ≤ wr.heap.size) (fun _ _ _ i _ => na - (intOf i).toNat)
 case atStart => exact ⟨0, Nat.zero_le _, rfl, Own2.nil _ _ _, by simp [rowsC], Below.refl _ _, by rw [HK.out]; exact Nat.le_refl _⟩
 case round =>
  obtain ⟨i, hi, rfl, hown, hlen, hbel, hKw⟩ := hrel
  have HO : Hid (Own2 S K wr u6 (rowsC A B i) ∧ (rowsC A B i).length ≤ 40 ∧ Below K w wr ∧ K ≤ wr.heap.size) := ⟨hown, hlen, hbel, hKw⟩
  clear hown hlen hbel hKw
  by_cases hlt : i < na
  ·have hiA : i < A.length := by rw [← HN.out.1]; exact hlt
   obtain ⟨ab, aoff, rfl⟩ := HAf.out (by omega)
   obtain ⟨co, cl, ccp, hall⟩ := HA.out i ab aoff hiA rfl
   have hcell := (hall wr HO.out.2.2.1).1
   have hltz : (i : Int) < (na : Int) := by omega
   have HCr : Hid (∀ W, Below K w W → Reads W (.slice co cl ccp) (A.getD i [])) := fun W hW => (hall W hW).2
   have HIA := hide hiA
   clear hall hiA
   go_wp2_with fail
   go_loopw [6, 10, 19] (fun v _ j wq => ∃ k : Nat, k ≤ nb ∧ j = .int .i64 k ∧ Own2 S K wq v (rowC A B i k) ∧ (rowC A B i k).length ≤ 40 ∧ Below K w wq ∧ K ≤ wq.heap.size) (fun _ _ j _ => nb - (intOf j).toNat)
   case atStart => exact ⟨0, Nat.zero_le _, rfl, HO.out.1, HO.out.2.1, HO.out.2.2.1, HO.out.2.2.2⟩
   case round =>
    obtain ⟨k, hk, rfl, hown, hlen, hbel, hKw⟩ := hrel
    have HI : Hid (Own2 S K wr u6 (rowC A B i k) ∧ (rowC A B i k).length ≤ 40 ∧ Below K w wr ∧ K ≤ wr.heap.size) := ⟨hown, hlen, hbel, hKw⟩
    clear hown hlen hbel hKw
    by_cases hltb : k < nb
    ·have hkB : k < B.length := by rw [← HN.out.2]; exact hltb
     obtain ⟨bb, boff, rfl⟩ := HBf.out (by omega)
     obtain ⟨eo, el, ecp, hall⟩ := HB.out k bb boff hkB rfl
     obtain ⟨hcell2, hdr⟩ := hall wr HI.out.2.2.1
     have hltz2 : (k : Int) < (nb : Int) := by omega
     have HJ1 := hide (HJ.out i k wr (.slice co cl ccp) (.slice eo el ecp) HIA.out hkB (HCr.out wr HI.out.2.2.1) hdr)
     have HKB := hide hkB
     clear hdr hkB hall
     go_wp2_with fail
     go_at_call 149
     refine HJ1.out.mono ?_
     rintro e w2 ⟨v2, r, rfl, hr, hjr, hb2⟩
     obtain ⟨ro, rcp, rfl, _⟩ := hr.slice
     have HW : Hid (Calls Tryz.prog 148 #[u6, .slice ro r.length rcp] w2 fun e w' => ∃ v', e = .returned v' ∧ Own2 S K w' v' (rowC A B i (k + 1)) ∧ w2.grownBy w' u6.ownBlock) := by
      have h := with_any S K u6 (.slice ro r.length rcp) (rowC A B i k) r w2 (by have := hb2.size; have := HI.out.2.2.2; omega) (HI.out.1.below hb2) (hr.mono fun b _ hb => ⟨Or.inr (Nat.le_trans HI.out.2.2.2 hb), fun e => by have := (HI.out.1.lt b e.symm).2; omega⟩) (by have := HI.out.2.1; omega) (fun m hm => HMm.out i k HIA.out HKB.out m ((hjr.1 m).1 hm))
      have e1 : withC (rowC A B i k) r = rowC A B i (k + 1) := by
       rw [rowC_succ A B i HKB.out]
       exact with_is hjr.1 hjr.2
      rw [e1] at h
      exact h
     have HB2 : Hid (Below K w w2 ∧ Below wr.heap.size wr w2 ∧ K ≤ w2.heap.size) := ⟨HI.out.2.2.1.trans (hb2.mono HI.out.2.2.2), hb2, by have := hb2.size; have := HI.out.2.2.2; omega⟩
     obtain ⟨rl, hrl⟩ := nm r.length
     rw [← hrl] at HW ⊢
     clear hr hjr hb2 HJ1 hrl
     go_wp2_with fail
     go_at_call 148
     refine HW.out.mono ?_
     rintro e w3 ⟨v3, rfl, hown3, hgr⟩
     have HB3 : Hid (Below K w w3 ∧ K ≤ w3.heap.size) := ⟨HB2.out.1.grown hgr HB2.out.2.2 (fun j hj => (HI.out.1.lt j hj).1), by have := hgr.size; have := HB2.out.2.2; omega⟩
     obtain ⟨o3, c3, rfl⟩ := hown3.form
     have HO3 := hide hown3
     have HLe : Hid ((rowC A B i (k + 1)).length ≤ (andC A B).length) := rowC_len A B HIA.out
     obtain ⟨l3, hl3⟩ := nm ((rowC A B i (k + 1)).length)
     rw [← hl3] at HO3 HLe ⊢
     have HL3 := hide hl3
     clear hown3 hgr HW hl3
     by_cases h40 : 40 < l3
     ·have h40z : (40 : Int) < (l3 : Int) := by omega
      have HE : Hid (capC (andC A B) = none) := capC_big (by have := HLe.out; omega)
      go_wp2
      go_ret2
      refine ⟨?_, HB3.out.1⟩
      rw [HE.out]; rfl
     ·have h40z : ¬ (40 : Int) < (l3 : Int) := by omega
      go_wp2
      go_roundw
      case rel => exact ⟨k + 1, by omega, by go_num, HO3.out, by have := HL3.out; omega, HB3.out.1, HB3.out.2⟩
      case measure => simp [intOf]; omega
    ·have hltz2 : ¬ (k : Int) < (nb : Int) := by omega
     have HE : Hid (rowsC A B (i + 1) = rowC A B i k) := by
      unfold Hid
      rw [rowsC_succ A B HIA.out, show B.length = k by have := HN.out.2; omega]
     go_wp2
     go_roundw
     case rel => exact ⟨i + 1, by omega, by go_num, by rw [HE.out]; exact HI.out.1, by rw [HE.out]; exact HI.out.2.1, HI.out.2.2.1, HI.out.2.2.2⟩
     case measure => simp [intOf]; omega
  ·have hltz : ¬ (i : Int) < (na : Int) := by omega
   have HE : Hid (rowsC A B i = andC A B) := by
    unfold Hid
    rw [← rowsC_all, show A.length = i by have := HN.out.1; omega]
   go_wp2
   go_ret2
   refine ⟨?_, HO.out.2.2.1⟩
   have h1 := HO.out.1
   have h2 := HO.out.2.1
   rw [HE.out] at h1 h2
   rw [capC_small h2]
   exact ⟨_, rfl, h1.reads (by omega)⟩
end Go.Proofs.YtjmeakkmfeoigaaGreatDoor
namespace Go.Proofs.YtjmeakkmfeoigaaGreatDoor
open Go.ChangeShapes Go.WideShapes Go.ChangeAt Go.RowKit
set_option maxRecDepth 100000
theorem turnC_succ (c : List Int) {k : Nat} (h : k < c.length) : turnC (c.take (k + 1)) = turnC (c.take k) ++ [[-(c.getD k 0)]] := by
 unfold turnC; rw [takeF_succ c h]; simp
set_option maxHeartbeats 4000000 in
theorem turned_any (v : Value) (c : List Int) (M : Nat) (hM : M ≤ 6) (w : World) (hc : cubeOk M c) (hv : Reads w v c) :
    Calls Tryz.prog 151 #[v] w fun e w' => ∃ v', e = .returned v' ∧ RS2 (fun b => w.heap.size ≤ b) w' v' (turnC c) ∧ Below w.heap.size w w' := by
 obtain ⟨i0, hi, hz0, hz1, hz2⟩ := info_parts infoS
 have hl := cube_len hc
 have HM : Hid (∀ k, k < c.length → (c.getD k 0).natAbs ≤ 6) := fun k hk => by
  have := (hc.1 (c.getD k 0) (by rw [List.getD_eq_getElem?_getD, List.getElem?_eq_getElem hk]; exact List.getElem_mem hk)).2
  omega
 obtain ⟨ao, acap, rfl, _⟩ := (hv.rs (S := fun _ => True) (fun _ _ => trivial)).slice
 obtain ⟨K, hK⟩ := nm w.heap.size
 have HK := hide hK
 have HC : Hid (∀ W, Below K w W → ∀ k, k < c.length → ∃ b off, ao = some ⟨b, off, none⟩ ∧ W.cell? ⟨b, off + k, none⟩ = some (.int .i64 (c.getD k 0))) := fun W hW k hk => by
  rcases hv with ⟨_, _, hv, rfl⟩ | ⟨b, off, cap, hv, hB, _, _, hcs⟩
  ·simp at hk
  ·cases hv
   exact ⟨b, off, rfl, by rw [hW.cell (show (⟨b, off + k, none⟩ : Addr).block < _ by rw [hK]; exact hB)]; exact hcs k hk⟩
 rw [← hK]
 clear hv hK
 obtain ⟨n, hn⟩ := nm c.length
 rw [← hn] at hl ⊢
 have HN := hide hn
 clear hn hc
 go_enter Tryz.func151, Tryz.ntmps151
 go_wp2_with fail
 go_loopw [3, 5, 8] (fun v _ i wr => ∃ k : Nat, k ≤ n ∧ i = .int .i64 k ∧ Own2 (fun _ => False) K wr v (turnC (c.take k)) ∧ Below K w wr ∧ K ≤ wr.heap.size) (fun _ _ i _ => n - (intOf i).toNat)
 case atStart => exact ⟨0, Nat.zero_le _, rfl, Own2.nil _ _ _, Below.refl _ _, by rw [HK.out]; exact Nat.le_refl _⟩
 case round =>
  obtain ⟨k, hk, rfl, hown, hbel, hKw⟩ := hrel
  have HI : Hid (Own2 (fun _ => False) K wr u3 (turnC (c.take k)) ∧ Below K w wr ∧ K ≤ wr.heap.size) := ⟨hown, hbel, hKw⟩
  clear hown hbel hKw
  by_cases hlt : k < n
  ·have hkc : k < c.length := by rw [← HN.out]; exact hlt
   obtain ⟨b, off, rfl, hcell⟩ := HC.out wr HI.out.2.1 k hkc
   have hm := HM.out k hkc
   have HE : Hid (turnC (c.take (k + 1)) = turnC (c.take k) ++ [[-(c.getD k 0)]]) := turnC_succ c hkc
   obtain ⟨m, hmd⟩ := nm (c.getD k 0)
   rw [← hmd] at hcell hm HE
   clear hmd hkc
   have m1 : -9223372036854775808 ≤ -m := by omega
   have m2 : -m ≤ 9223372036854775807 := by omega
   have hltz : (k : Int) < (n : Int) := by omega
   obtain ⟨w2, hw2⟩ := nm (wr.alloc (.cells #[.int .i64 (-m)] 3))
   obtain ⟨w3, hw3⟩ := nm (w2.alloc (.cells #[.slice (some ⟨wr.heap.size, 0, none⟩) 1 1] 27))
   have hs2 : w2.heap.size = wr.heap.size + 1 := by rw [hw2]; simp
   have HB3 : Hid (Below wr.heap.size wr w3 ∧ w3.heap.size = wr.heap.size + 2) := by
    refine ⟨?_, by rw [hw3]; simp [hs2]⟩
    rw [hw3]
    exact (by rw [hw2]; exact below_alloc1 _ _ : Below wr.heap.size wr w2).trans ((below_alloc1 _ _).mono (by omega))
   have HU : Hid (RS (fun b => ((fun _ => False) b ∨ K ≤ b) ∧ some b ≠ u3.ownBlock) w3 (.slice (some ⟨wr.heap.size, 0, none⟩) 1 1) [-m]) := by
    refine Or.inr ⟨wr.heap.size, 0, 1, rfl, ⟨⟨Or.inr HI.out.2.2, fun e => by have := (HI.out.1.lt _ e.symm).2; omega⟩, by have := HB3.out.2; omega⟩, by simp, ⟨by simp, by simp⟩, fun j hj => ?_⟩
    have hj0 : j = 0 := by simpa using hj
    subst hj0
    rw [hw3, World.cell?_alloc_lt _ _ ⟨wr.heap.size, 0 + 0, none⟩ (by simp; omega), hw2]
    simp
   obtain ⟨xs, ho, hx⟩ := HI.out.1.below HB3.out.1
   obtain ⟨l, hl'⟩ := nm ((turnC (c.take k)).length)
   have HLl : Hid (l = (turnC (c.take k)).length ∧ l ≤ 6) := ⟨hl', by rw [hl']; unfold turnC; simp; omega⟩
   obtain ⟨vo, vcap, hvf⟩ := HI.out.1.form
   rw [← hl'] at ho hvf
   clear hl'
   subst hvf
   have HOx := hide ho
   have HX := hide hx
   have hca : w3.cell? ((⟨w2.heap.size, 0, none⟩ : Addr).add 0) = some (.slice (some ⟨wr.heap.size, 0, none⟩) 1 1) := by rw [hw3]; simp [Addr.add]
   have HCa : Hid (∀ j u, ([Value.slice (some ⟨wr.heap.size, 0, none⟩) 1 1] : List Value)[j]? = some u → w3.cell? ((⟨wr.heap.size + 1, 0, none⟩ : Addr).add j) = some u) := fun j u hu => by
    match j, hu with
    | 0, hu => simp at hu; subst hu; rw [← hs2]; exact hca
   have HS3 : Hid (K ≤ w3.heap.size) := by have := HB3.out.2; have := HI.out.2.2; unfold Hid; omega
   have HW3 : Hid ((wr.alloc (.cells #[.int .i64 (-m)] 3)).alloc (.cells #[.slice (some ⟨wr.heap.size, 0, none⟩) 1 1] 27) = w3) := by unfold Hid; rw [hw3, hw2]
   clear ho hx hca hw2 hw3
   go_wp2_with (first | (at_builtin; rw [HW3.out]; refine wpList_append_lies _ rfl (.tmp 12) (.tmp 16) 94 rfl K 27 i0 (.slice none 0 0) 1 24 Tryz.underlying94 hi hz0 hz1 hz2 rfl (by decide) (.slice vo l vcap) l xs rfl HOx.out ⟨wr.heap.size + 1, 0, none⟩ 1 1 [.slice (some ⟨wr.heap.size, 0, none⟩) 1 1] rfl rfl HCa.out (by intro y hy; simp at hy; subst hy; rfl) (by decide) ?d3 ?d4 HS3.out w3.heap.size rfl ?_))
   case d3 => have := HLl.out.2; unfold maxLen; omega
   case d4 => have := HLl.out.2; omega
   intro g cap w5 hown hgrow hat hlt5
   have HR : Hid (Own2 (fun _ => False) K w5 (.slice (some ⟨g, 0, none⟩) (l + 1) cap) (turnC (c.take (k + 1)))) := by
    unfold Hid
    rw [HE.out]
    have h1 := HOx.out
    have h2 := HX.out
    have h3 := HU.out
    have e := HLl.out.1
    subst e
    exact Own2.push h1 h2 h3 (by simpa using hown) hgrow hat
   have HB5 : Hid (Below K w w5 ∧ K ≤ w5.heap.size) := by
    refine ⟨(HI.out.2.1.trans (HB3.out.1.mono HI.out.2.2)).grown hgrow HS3.out (fun j hj => (HOx.out.lt j hj).1), ?_⟩
    have := hgrow.size; have := HS3.out; omega
   clear hown hgrow hat hlt5
   go_wp2
   go_roundw
   case rel => exact ⟨k + 1, by omega, by go_num, HR.out, HB5.out.1, HB5.out.2⟩
   case measure => simp [intOf]; omega
  ·have hltz : ¬ (k : Int) < (n : Int) := by omega
   have HE : Hid (c.take k = c) := List.take_of_length_le (by have := HN.out; omega)
   go_wp2
   go_ret
   refine ⟨_, rfl, ?_, HI.out.2.1⟩
   have h := HI.out.1
   rw [HE.out] at h
   exact (h.reads (by unfold turnC; simp; have := HN.out; omega)).mono fun b _ hb => hb.resolve_left id
theorem noC_append (a b out : List (List Int)) : noC (a ++ b) out = (noC a out).bind (noC b) := by
 induction a generalizing out with
 | nil => rfl
 | cons c l ih =>
  show (capC (andC out (turnC c))).bind (noC (l ++ b)) = ((capC (andC out (turnC c))).bind (noC l)).bind (noC b)
  cases capC (andC out (turnC c)) with
  | none => rfl
  | some x => exact ih x
theorem noC_succ (L : List (List Int)) {k : Nat} (h : k < L.length) {O : List (List Int)} (hO : noC (L.take k) [[]] = some O) : noC (L.take (k + 1)) [[]] = capC (andC O (turnC (L.getD k []))) := by
 rw [takeL_succ L h, noC_append, hO]
 show (capC (andC O (turnC (L.getD k [])))).bind (noC []) = _
 cases capC (andC O (turnC (L.getD k []))) <;> rfl
theorem noC_none {L : List (List Int)} {k : Nat} (h : noC (L.take k) [[]] = none) : noC L [[]] = none := by
 have : noC (L.take k ++ L.drop k) [[]] = none := by rw [noC_append, h]; rfl
 rwa [List.take_append_drop] at this
set_option maxHeartbeats 4000000 in
theorem none_cubes (S : Nat → Prop) (va : Value) (A : List (List Int)) (M : Nat) (hM : M ≤ 6) (w : World) (hA : ∀ c ∈ A, cubeOk M c) (hRA : RS2 S w va A) :
    Calls Tryz.prog 122 #[va] w fun e w' => OutC S w.heap.size w' e (noC A [[]]) ∧ Below w.heap.size w w' := by
 obtain ⟨ao, acap, hav, ha63⟩ := hRA.slice
 obtain ⟨K, hK⟩ := nm w.heap.size
 have HK := hide hK
 have HA : Hid (∀ k b off, k < A.length → ao = some ⟨b, off, none⟩ → ∃ o l cp, ∀ W, Below K w W → W.cell? ⟨b, off + k, none⟩ = some (.slice o l cp) ∧ Reads W (.slice o l cp) (A.getD k [])) := fun k b off hk e => hRA.always hK (by rw [hav, e]) hk
 have HAf : Hid (0 < A.length → ∃ b off, ao = some ⟨b, off, none⟩) := fun h0 => by
  obtain ⟨b, off, cap, e⟩ := hRA.form h0
  rw [hav] at e; cases e; exact ⟨b, off, rfl⟩
 have HOk : Hid (∀ k O, noC (A.take k) [[]] = some O → okL M O ∧ O.length ≤ 40) := fun k O h => no_ok hM _ _ _ (fun c hc => hA c (List.mem_of_mem_take hc)) (okL_one M) (by simp) h
 have HT : Hid (∀ k W v, k < A.length → Reads W v (A.getD k []) → Calls Tryz.prog 151 #[v] W fun e w' => ∃ v', e = .returned v' ∧ RS2 (fun b => W.heap.size ≤ b) w' v' (turnC (A.getD k [])) ∧ Below W.heap.size W w') := fun k W v hk hv => turned_any v _ M hM W (hA _ (mem_getD hk)) hv
 have HBo : Hid (∀ k O W v v', k < A.length → noC (A.take k) [[]] = some O → RS2 (fun b => K ≤ b) W v O → RS2 (fun b => K ≤ b) W v' (turnC (A.getD k [])) → Calls Tryz.prog 120 #[v, v'] W fun e w' => OutC (fun b => K ≤ b) W.heap.size w' e (capC (andC O (turnC (A.getD k [])))) ∧ Below W.heap.size W w') := fun k O W v v' hk hO h1 h2 => both_cubes (fun b => K ≤ b) v v' O _ M hM W (HOk.out k O hO).1.1 (turn_ok (hA _ (mem_getD hk))) h1 h2
 subst hav
 rw [← hK]
 clear hRA hA hK
 obtain ⟨na, hna⟩ := nm A.length
 rw [← hna] at ha63 ⊢
 have HN := hide hna
 clear hna
 obtain ⟨w1, hw1⟩ := nm (w.alloc (.cells #[.slice none 0 0] 27))
 have HB1 : Hid (Below K w w1 ∧ w1.heap.size = K + 1) := by
  rw [HK.out, hw1]; exact ⟨below_alloc1 _ _, by simp⟩
 have HO1 : Hid (RS2 (fun b => K ≤ b) w1 (.slice (some ⟨w.heap.size, 0, none⟩) 1 1) [[]]) := by
  refine Or.inr ⟨w.heap.size, 0, 1, rfl, ⟨by rw [HK.out]; exact Nat.le_refl _, by have := HB1.out.2; rw [← HK.out]; omega⟩, by simp, ⟨by simp, by simp⟩, fun k t hk => ?_⟩
  have hk0 : k = 0 := by have := (List.getElem?_eq_some_iff.1 hk).1; simpa using this
  subst hk0
  simp at hk; subst hk
  exact ⟨.slice none 0 0, by rw [hw1]; simp, Or.inl ⟨none, 0, rfl, rfl⟩⟩
 go_enter Tryz.func122, Tryz.ntmps122
 go_wp2_with fail
 rw [← hw1]
 clear hw1
 go_loopw [4, 6, 7, 11] (fun v _ _ i wr => ∃ (k : Nat) (O : List (List Int)), k ≤ na ∧ i = .int .i64 k ∧ noC (A.take k) [[]] = some O ∧ RS2 (fun b => K ≤ b) wr v O ∧ Below K w wr ∧ K ≤ wr.heap.size) (fun _ _ _ i _ => na - (intOf i).toNat)
 case atStart => exact ⟨0, [[]], Nat.zero_le _, rfl, rfl, HO1.out, HB1.out.1, by have := HB1.out.2; omega⟩
 case round =>
  obtain ⟨k, O, hk, rfl, hO, hR, hbel, hKw⟩ := hrel
  have HI : Hid (noC (A.take k) [[]] = some O ∧ RS2 (fun b => K ≤ b) wr u4 O ∧ Below K w wr ∧ K ≤ wr.heap.size) := ⟨hO, hR, hbel, hKw⟩
  obtain ⟨oo, ocap, rfl, _⟩ := hR.slice
  obtain ⟨ol, hol⟩ := nm O.length
  rw [← hol] at HI ⊢
  clear hO hR hbel hKw hol
  by_cases hlt : k < na
  ·have hkA : k < A.length := by rw [← HN.out]; exact hlt
   obtain ⟨ab, aoff, rfl⟩ := HAf.out (by omega)
   obtain ⟨co, cl, ccp, hall⟩ := HA.out k ab aoff hkA rfl
   obtain ⟨hcell, hcr⟩ := hall wr HI.out.2.2.1
   have hltz : (k : Int) < (na : Int) := by omega
   have HT1 : Hid (Calls Tryz.prog 151 #[.slice co cl ccp] wr fun e w' => ∃ v', e = .returned v' ∧ RS2 (fun b => wr.heap.size ≤ b) w' v' (turnC (A.getD k [])) ∧ Below wr.heap.size wr w') := HT.out k wr _ hkA hcr
   have HKA := hide hkA
   clear hall hcr hkA
   go_wp2_with fail
   go_at_call 151
   refine HT1.out.mono ?_
   rintro e w2 ⟨v2, rfl, hr2, hb2⟩
   have HB2 : Hid (Below K w w2 ∧ K ≤ w2.heap.size) := ⟨HI.out.2.2.1.trans (hb2.mono HI.out.2.2.2), by have := hb2.size; have := HI.out.2.2.2; omega⟩
   have HBo1 : Hid (Calls Tryz.prog 120 #[.slice oo ol ocap, v2] w2 fun e w' => OutC (fun b => K ≤ b) w2.heap.size w' e (capC (andC O (turnC (A.getD k [])))) ∧ Below w2.heap.size w2 w') := HBo.out k O w2 _ _ HKA.out HI.out.1 (HI.out.2.1.kept (Kept.of_below hb2)) (hr2.mono fun b _ hb => Nat.le_trans HI.out.2.2.2 hb)
   have HS : Hid (noC (A.take (k + 1)) [[]] = capC (andC O (turnC (A.getD k [])))) := noC_succ A HKA.out HI.out.1
   obtain ⟨too, tcap, rfl, _⟩ := hr2.slice
   obtain ⟨tl, htl⟩ := nm ((turnC (A.getD k [])).length)
   rw [← htl] at HBo1 ⊢
   clear hr2 hb2 HT1 htl
   go_wp2_with fail
   go_at_call 120
   refine HBo1.out.mono ?_
   rintro e w3 ⟨hout, hb3⟩
   have HB3 : Hid (Below K w w3 ∧ K ≤ w3.heap.size) := ⟨HB2.out.1.trans (hb3.mono HB2.out.2), by have := hb3.size; have := HB2.out.2; omega⟩
   clear hb3 HBo1
   cases hcap : capC (andC O (turnC (A.getD k []))) with
   | none =>
    rw [hcap] at hout
    have he : e = .returned (.tuple #[.slice none 0 0, .iface 64 (.int .i64 4)]) := hout
    subst he
    have HE : Hid (noC A [[]] = none) := noC_none (HS.out.trans hcap)
    clear hcap hout
    go_wp2
    go_ret2
    refine ⟨?_, HB3.out.1⟩
    rw [HE.out]; rfl
   | some O' =>
    rw [hcap] at hout
    obtain ⟨v3, rfl, hr3⟩ : ∃ v, e = .returned (.tuple #[v, .nilIface]) ∧ RS2 (fun b => K ≤ b ∨ w2.heap.size ≤ b) w3 v O' := hout
    have HR3 : Hid (noC (A.take (k + 1)) [[]] = some O' ∧ RS2 (fun b => K ≤ b) w3 v3 O') := ⟨HS.out.trans hcap, hr3.mono fun b _ hb => hb.elim id (fun h => Nat.le_trans HB2.out.2 h)⟩
    clear hcap hr3
    go_wp2
    go_roundw
    case rel => exact ⟨k + 1, O', by omega, by go_num, HR3.out.1, HR3.out.2, HB3.out.1, HB3.out.2⟩
    case measure => simp [intOf]; omega
  ·have hltz : ¬ (k : Int) < (na : Int) := by omega
   have HE : Hid (noC A [[]] = some O) := by
    have h := HI.out.1
    rw [List.take_of_length_le (by have := HN.out; omega)] at h
    exact h
   go_wp2
   go_ret2
   refine ⟨?_, HI.out.2.2.1⟩
   rw [HE.out]
   exact ⟨_, rfl, HI.out.2.1.mono fun b _ hb => Or.inr hb⟩
end Go.Proofs.YtjmeakkmfeoigaaGreatDoor
namespace Go.Proofs.YtjmeakkmfeoigaaGreatDoor
open Go.ChangeShapes Go.WideShapes Go.ChangeAt Go.RowKit
set_option maxRecDepth 100000
theorem rs2_row {S : Nat → Prop} {w : World} {v : Value} {L : List (List Int)} (h : RS2 S w v L) : ∃ o cap xs, v = .slice o L.length cap ∧ (⟨o, L.length, cap, xs⟩ : RowV).Lies w ∧ xs.length = L.length ∧ ∀ (k : Nat) t, L[k]? = some t → ∃ u, xs[k]? = some u ∧ RS S w u t := by
 rcases h with ⟨ao, cap, rfl, rfl⟩ | ⟨b, off, cap, rfl, hB, h0, _, hc⟩
 ·exact ⟨ao, cap, [], rfl, ⟨by simp, by simp, Or.inl rfl⟩, rfl, fun k t hk => by simp at hk⟩
 ·have key : ∀ k, k < L.length → ∃ u, w.cell? ⟨b, off + k, none⟩ = some u ∧ u.oneCell' = true := fun k hk => by
   obtain ⟨u, hu, hr⟩ := hc k _ (List.getElem?_eq_getElem hk)
   exact ⟨u, hu, hr.one⟩
  refine ⟨_, cap, (List.range L.length).map (fun j => (w.cell? ⟨b, off + j, none⟩).getD (.int .i64 0)), rfl, ⟨by simp, ?_, Or.inr ⟨b, off, rfl, hB.2, ?_⟩⟩, by simp, ?_⟩
  ·intro u hu
   obtain ⟨k, hk, rfl⟩ := List.mem_map.1 hu
   obtain ⟨x, hx, h1⟩ := key k (List.mem_range.1 hk)
   rw [hx]; exact h1
  ·intro j u hu
   have hu' : ((List.range L.length).map (fun j => (w.cell? ⟨b, off + j, none⟩).getD (.int .i64 0)))[j]? = some u := hu
   rw [List.getElem?_map] at hu'
   cases hr : (List.range L.length)[j]? with
   | none => rw [hr] at hu'; cases hu'
   | some k =>
    rw [hr] at hu'
    obtain ⟨hk, e⟩ := List.getElem?_eq_some_iff.1 hr
    have e' : k = j := by simpa using e.symm
    subst e'
    obtain ⟨x, hx, _⟩ := key k (by simpa using hk)
    simp only [Option.map_some, hx, Option.getD_some, Option.some.injEq] at hu'
    rw [hx, hu']
  ·intro k t hk
   obtain ⟨u, hu, hr⟩ := hc k t hk
   have hkl := (List.getElem?_eq_some_iff.1 hk).1
   refine ⟨u, ?_, hr⟩
   rw [List.getElem?_map, List.getElem?_range hkl]
   simp [hu]
theorem withC_ok {M : Nat} {L : List (List Int)} {c : List Int} (h : cubeOk M c) : withC L c = putC L c := by
 unfold withC putC
 rw [cube_noway h, Bool.false_or]
set_option maxHeartbeats 4000000 in
theorem either_cubes (S : Nat → Prop) (va vb : Value) (A B : List (List Int)) (M : Nat) (hM : M ≤ 6) (w : World) (hA : ∀ c ∈ A, cubeOk M c) (hB : ∀ c ∈ B, cubeOk M c) (hA4 : A.length ≤ 40) (hB4 : B.length ≤ 40) (hRA : RS2 S w va A) (hRB : RS2 S w vb B) :
    Calls Tryz.prog 121 #[va, vb] w fun e w' => OutC S w.heap.size w' e (capC (orC A B)) ∧ Below w.heap.size w w' := by
 obtain ⟨ao, acap, xa, rfl, la, hxa, hxar⟩ := rs2_row hRA
 obtain ⟨bo, bcap, xb, rfl, lb, hxb, hxbr⟩ := rs2_row hRB
 obtain ⟨K, hK⟩ := nm w.heap.size
 have HK := hide hK
 obtain ⟨D, hD⟩ := nm (A ++ B)
 have HX : Hid (∀ k, k < D.length → ∃ o l cp, (xa ++ xb)[k]? = some (.slice o l cp) ∧ RS (fun b => S b ∧ b < K) w (.slice o l cp) (D.getD k [])) := fun k hk => by
  have : ∃ u, (xa ++ xb)[k]? = some u ∧ RS S w u (D.getD k []) := by
   rw [hD] at hk ⊢
   by_cases hka : k < A.length
   ·obtain ⟨u, hu, hr⟩ := hxar k _ (List.getElem?_eq_getElem hka)
    refine ⟨u, by rw [List.getElem?_append_left (by omega)]; exact hu, ?_⟩
    rw [List.getD_eq_getElem?_getD, List.getElem?_append_left hka, List.getElem?_eq_getElem hka]; exact hr
   ·have hkb : k - A.length < B.length := by simp at hk; omega
    obtain ⟨u, hu, hr⟩ := hxbr (k - A.length) _ (List.getElem?_eq_getElem hkb)
    refine ⟨u, by rw [List.getElem?_append_right (by omega), hxa]; exact hu, ?_⟩
    rw [List.getD_eq_getElem?_getD, List.getElem?_append_right (by omega), List.getElem?_eq_getElem hkb]; exact hr
  obtain ⟨u, hu, hr⟩ := this
  obtain ⟨o, cp, rfl, _⟩ := hr.slice
  exact ⟨o, _, cp, hu, hr.mono fun b hb hs => ⟨hs, by rw [hK]; exact hb⟩⟩
 have HOk : Hid (∀ k, k < D.length → cubeOk M (D.getD k [])) := fun k hk => by
  have hm := mem_getD hk
  rw [hD] at hm ⊢
  rcases List.mem_append.1 hm with h | h
  ·exact hA _ h
  ·exact hB _ h
 have hor : orC A B = D.foldl putC [] := by rw [hD]; rfl
 have HL : Hid (A.length ≤ 40 ∧ B.length ≤ 40 ∧ D.length = A.length + B.length) := ⟨hA4, hB4, by rw [hD]; simp⟩
 obtain ⟨na, hna⟩ := nm A.length
 obtain ⟨nb, hnb⟩ := nm B.length
 rw [← hna, ← hnb] at HL
 rw [← hna] at la
 rw [← hnb] at lb
 rw [← hna, ← hnb, hor, ← hK]
 clear hRA hRB hA hB hD hor hK hxar hxbr hA4 hB4 hna hnb hxa hxb
 obtain ⟨w1, hw1⟩ := nm (w.alloc (.cells #[.slice ao na acap, .slice bo nb bcap] 94))
 have HB1 : Hid (Below w.heap.size w w1 ∧ w1.heap.size = w.heap.size + 1) := by unfold Hid; rw [hw1]; exact ⟨below_alloc1 _ _, by simp⟩
 have HCo : Hid (Calls Tryz.prog 150 #[.slice (some ⟨w.heap.size, 0, none⟩) 2 2] w1 fun e w' => ∃ v, e = .returned v ∧ w'.ownsRow w1.heap.size 27 1 v (na + nb) (xa ++ xb) ∧ Below w1.heap.size w1 w') := by
  have h := concatV2 [⟨ao, na, acap, xa⟩, ⟨bo, nb, bcap, xb⟩] w.heap.size 2 w1 (by simp) (by have := HB1.out.2; omega) (fun k r hk => ?_) (fun r hr => ?_) (by have := HL.out; simp [manyV]; omega)
  ·have e1 : manyV [⟨ao, na, acap, xa⟩, ⟨bo, nb, bcap, xb⟩] = na + nb := by simp [manyV]
   have e2 : allV [⟨ao, na, acap, xa⟩, ⟨bo, nb, bcap, xb⟩] = xa ++ xb := by simp [allV]
   rw [e1, e2] at h
   exact h
  ·match k, hk with
   | 0, hk => simp at hk; subst hk; rw [hw1]; simp
   | 1, hk => simp at hk; subst hk; rw [hw1]; simp
  ·simp at hr
   rcases hr with rfl | rfl
   ·exact la.below HB1.out.1
   ·exact lb.below HB1.out.1
 clear la lb
 go_enter Tryz.func121, Tryz.ntmps121
 go_wp2_with fail
 rw [← hw1]
 clear hw1
 go_at_call 150
 refine HCo.out.mono ?_
 rintro e w2 ⟨v2, rfl, hown, hb⟩
 obtain ⟨n, hn⟩ := nm (na + nb)
 rw [← hn] at hown
 have HN : Hid (n = D.length ∧ n ≤ 80) := ⟨by have := HL.out; omega, by have := HL.out; omega⟩
 obtain ⟨vo, vcap, rfl⟩ : ∃ vo vcap, v2 = .slice vo n vcap := by
  rcases hown.2 with ⟨rfl, h0⟩ | ⟨g, cap, cur, rfl, _⟩
  ·exact ⟨none, 0, by rw [h0]⟩
  ·exact ⟨_, cap, rfl⟩
 obtain ⟨Q, hQ⟩ := nm w2.heap.size
 have HQ : Hid (Q = w2.heap.size ∧ K ≤ Q ∧ Below K w w2) := by
  have h1 := HB1.out; have h2 := HK.out; have h3 := hb.size
  refine ⟨hQ, by omega, ?_⟩
  rw [h2]
  exact h1.1.trans (hb.mono h1.1.size)
 have HC : Hid (∀ W k, Below Q w2 W → k < n → ∃ g o l cp, vo = some ⟨g, 0, none⟩ ∧ W.cell? ⟨g, k, none⟩ = some (.slice o l cp) ∧ RS (fun b => S b ∧ b < K) W (.slice o l cp) (D.getD k [])) := fun W k hW hk => by
  obtain ⟨o, l, cp, hx, hr⟩ := HX.out k (by rw [← HN.out.1]; exact hk)
  obtain ⟨g, rfl⟩ : ∃ g, vo = some ⟨g, 0, none⟩ := by
   rcases hown.2 with ⟨_, h0⟩ | ⟨g, cap, cur, e, _⟩
   ·omega
   ·cases e; exact ⟨g, rfl⟩
  have hg := (hown.lt g rfl).2
  refine ⟨g, o, l, cp, rfl, ?_, ?_⟩
  ·rw [hW.cell (show (⟨g, k, none⟩ : Addr).block < Q by rw [hQ]; exact hg), hown.cellAt k (by omega)]; exact hx
  ·have k1 : Below K w W := HQ.out.2.2.trans (hW.mono HQ.out.2.1)
   exact hr.kept (Kept.of_belowK k1 fun b hb _ => hb.2)
 have hn80 : n ≤ 80 := HN.out.2
 clear hown hb hQ hn HCo
 go_wp2_with fail
 go_loopw [6, 8, 14] (fun v _ i wr => ∃ k : Nat, k ≤ n ∧ i = .int .i64 k ∧ Own2 S Q wr v ((D.take k).foldl putC []) ∧ Below Q w2 wr ∧ Q ≤ wr.heap.size) (fun _ _ i _ => n - (intOf i).toNat)
 case atStart => exact ⟨0, Nat.zero_le _, rfl, Own2.nil _ _ _, Below.refl _ _, by rw [HQ.out.1]; exact Nat.le_refl _⟩
 case round =>
  obtain ⟨k, hk, rfl, hown, hbel, hKw⟩ := hrel
  have HI : Hid (Own2 S Q wr u6 ((D.take k).foldl putC []) ∧ Below Q w2 wr ∧ Q ≤ wr.heap.size) := ⟨hown, hbel, hKw⟩
  have HLp : Hid (((D.take k).foldl putC []).length ≤ 80) := by
   have := (putF_len (D.take k) []).2
   have h2 := HN.out
   unfold Hid
   simp at this
   omega
  clear hown hbel hKw
  by_cases hlt : k < n
  ·have hkD : k < D.length := by rw [← HN.out.1]; exact hlt
   obtain ⟨g, co, cl, ccp, rfl, hcell, hcr⟩ := HC.out wr k HI.out.2.1 hlt
   have hltz : (k : Int) < (n : Int) := by omega
   have HW : Hid (Calls Tryz.prog 148 #[u6, .slice co cl ccp] wr fun e w' => ∃ v', e = .returned v' ∧ Own2 S Q w' v' ((D.take (k + 1)).foldl putC []) ∧ wr.grownBy w' u6.ownBlock) := by
    have h := with_any S Q u6 (.slice co cl ccp) _ (D.getD k []) wr HI.out.2.2 HI.out.1 (hcr.mono fun b _ hb => ⟨Or.inl hb.1, fun e => by have := (HI.out.1.lt b e.symm).1; have := HQ.out.2.1; omega⟩) (by have := HLp.out; omega) (fun m hm => by have := (HOk.out k hkD).1 m hm; omega)
    have e1 : withC ((D.take k).foldl putC []) (D.getD k []) = (D.take (k + 1)).foldl putC [] := by
     rw [withC_ok (HOk.out k hkD), takeL_succ D hkD, List.foldl_append]; rfl
    rw [e1] at h
    exact h
   clear hcr hkD
   go_wp2_with fail
   go_at_call 148
   refine HW.out.mono ?_
   rintro e w3 ⟨v3, rfl, hown3, hgr⟩
   have HB3 : Hid (Below Q w2 w3 ∧ Q ≤ w3.heap.size) := ⟨HI.out.2.1.grown hgr HI.out.2.2 (fun j hj => (HI.out.1.lt j hj).1), by have := hgr.size; have := HI.out.2.2; omega⟩
   have HO3 := hide hown3
   clear hown3 hgr HW
   go_wp2
   go_roundw
   case rel => exact ⟨k + 1, by omega, by go_num, HO3.out, HB3.out.1, HB3.out.2⟩
   case measure => simp [intOf]; omega
  ·have hltz : ¬ (k : Int) < (n : Int) := by omega
   have HE : Hid (D.take k = D) := List.take_of_length_le (by have := HN.out; omega)
   rw [HE.out] at HI HLp
   obtain ⟨o3, c3, hof⟩ := HI.out.1.form
   obtain ⟨l3, hl3⟩ := nm ((D.foldl putC []).length)
   rw [← hl3] at hof
   subst hof
   have HL3 := hide hl3
   have hl80 : l3 ≤ 80 := by rw [hl3]; exact HLp.out
   clear hl3
   have HBw := hide (HQ.out.2.2.trans (HI.out.2.1.mono HQ.out.2.1))
   by_cases h40 : 40 < l3
   ·have h40z : (40 : Int) < (l3 : Int) := by omega
    have HC4 : Hid (capC (D.foldl putC []) = none) := capC_big (by rw [← HL3.out]; exact h40)
    go_wp2
    go_ret2
    refine ⟨?_, HBw.out⟩
    rw [HC4.out]; rfl
   ·have h40z : ¬ (40 : Int) < (l3 : Int) := by omega
    have HC4 : Hid (capC (D.foldl putC []) = some (D.foldl putC [])) := capC_small (by rw [← HL3.out]; omega)
    go_wp2
    go_ret2
    refine ⟨?_, HBw.out⟩
    rw [HC4.out]
    exact ⟨_, rfl, (HI.out.1.reads (by rw [← HL3.out]; omega)).mono fun b _ hb => hb.imp id (fun h => Nat.le_trans HQ.out.2.1 h)⟩
end Go.Proofs.YtjmeakkmfeoigaaGreatDoor