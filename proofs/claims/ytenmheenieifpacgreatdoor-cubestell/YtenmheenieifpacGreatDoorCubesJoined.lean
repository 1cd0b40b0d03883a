/-
  Proved: what cubes.joined returns: the members of two cubes, by atoms, each once, in a new row; what was in memory is as it was (a contract that the statements lean on).
-/
import Derived.Test.YtenmheenieifpacGreatDoorCubesFar
import Derived.Lib.RowBridge
namespace Go.Proofs.YtenmheenieifpacGreatDoor
open Go.ChangeShapes Go.WideShapes Go.ChangeAt Go.RowKit
open Go.Shelf
set_option maxRecDepth 100000

/-- a row of numbers as one that is put together. -/
theorem reads_row {w : World} {v : Value} {t : List Int} (h : Reads w v t) : ∃ o cap, v = .slice o t.length cap ∧ (⟨o, t.length, cap, t.map (Value.int .i64)⟩ : RowV).Lies w := by
  rcases h with ⟨ao, cap, rfl, rfl⟩ | ⟨b, off, cap, rfl, hB, h0, _, hc⟩
  · exact ⟨ao, cap, rfl, by simp, by simp, Or.inl rfl⟩
  · refine ⟨_, cap, rfl, by simp, ?_, Or.inr ⟨b, off, rfl, hB, fun j u hu => ?_⟩⟩
    · intro u hu
      obtain ⟨s, _, rfl⟩ := List.mem_map.1 hu; rfl
    · have hu' : (t.map (Value.int .i64))[j]? = some u := hu
      rw [List.getElem?_map] at hu'
      cases hcj : t[j]? with
      | none => rw [hcj] at hu'; cases hu'
      | some s =>
        rw [hcj] at hu'
        have hjl := (List.getElem?_eq_some_iff.1 hcj).1
        rw [hc j hjl, List.getD_eq_getElem?_getD, hcj]
        simpa using hu'
/-- members as such. -/
def memsOf (t : List Int) (h : ∀ m ∈ t, m.natAbs ≤ 6) : List Mem := t.attach.map (fun x => ⟨x.1, h x.1 x.2⟩)
theorem memsOf_val (t : List Int) (h : ∀ m ∈ t, m.natAbs ≤ 6) : (memsOf t h).map (·.1) = t := by
  unfold memsOf
  rw [List.map_map]
  exact List.attach_map_subtype_val t
theorem memsOf_len (t : List Int) (h : ∀ m ∈ t, m.natAbs ≤ 6) : (memsOf t h).length = t.length := by simp [memsOf]
theorem get_val (d : Array Mem) (j : Nat) (hj : j < d.size) : (d.toList.map (·.1)).getD j 0 = (d[j]!).1 := by
  rw [List.getD_eq_getElem?_getD, List.getElem?_map]
  simp [hj]
theorem holds_mems {w : World} {g cap n base : Nat} {t : List Int} {e : TypeId} (h : ∀ m ∈ t, m.natAbs ≤ 6) (ho : w.ownsRow base e 1 (.slice (some ⟨g, 0, none⟩) n cap) n (t.map (Value.int .i64))) (hn : n = t.length) : Sort.Holds encM w g 0 (memsOf t h).toArray := by
  intro j hj
  have hj' : j < t.length := by simpa [memsOf_len] using hj
  refine ⟨?_, by rw [Nat.zero_add]; exact ho.frozenAt j⟩
  rw [Nat.zero_add, ho.cellAt j (by omega)]
  have e1 : ((memsOf t h).toArray[j]!).1 = t.getD j 0 := by
    have := get_val (memsOf t h).toArray j hj
    rw [← this]
    show ((memsOf t h).map (·.1)).getD j 0 = _
    rw [memsOf_val]
  unfold encM
  rw [e1, List.getElem?_map, List.getD_eq_getElem?_getD, List.getElem?_eq_getElem hj']
  rfl
theorem holds_ints {w : World} {g : Nat} {d : Array Mem} (h : Sort.Holds encM w g 0 d) : Sort.Holds (Value.int .i64) w g 0 (d.toList.map (·.1)).toArray := by
  intro j hj
  have hj' : j < d.size := by simpa using hj
  have := h j hj'
  refine ⟨?_, this.2⟩
  rw [this.1]
  unfold encM
  have e := get_val d j hj'
  rw [← e]
  simp [hj']

theorem sort_none (a : Option Addr) (cap : Nat) (fv : Value) (w : World) : Calls Tryz.prog 70 #[.slice a 0 cap, fv] w fun e w' => e = .returned (.tuple #[]) ∧ w' = w :=
  AnyF.slices_SortFunc_none Tryz.laysSort0 a cap fv w
theorem compact_none (a : Option Addr) (cap : Nat) (w : World) : Calls Tryz.prog 73 #[.slice a 0 cap] w fun e w' => e = .returned (.slice a 0 cap) ∧ w' = w :=
  AnyG.slices_Compact_int_empty Tryz.laysCompact a cap w
theorem compact_some (g cap : Nat) (zs : List Int) (w : World) (hH : Sort.Holds (Value.int .i64) w g 0 zs.toArray) (hsz : zs.length ≤ 9223372036854775807) (hcap : zs.length ≤ cap) :
    Calls Tryz.prog 73 #[.slice (some ⟨g, 0, none⟩) zs.length cap] w fun e w' => e = .returned (.slice (some ⟨g, 0, none⟩) (Lib.compact zs).length cap) ∧ ∃ q, w' = Sort.putRow (Value.int .i64) (Sort.ahead w q) g 0 (Lib.compact zs ++ List.replicate (zs.length - (Lib.compact zs).length) 0).toArray :=
  AnyG.slices_Compact_int Tryz.laysCompact g 0 cap zs w hH hsz hcap
theorem sort_some (g cap : Nat) (D : Array Mem) (w : World) (hH : Sort.Holds encM w g 0 D) (hg : g < w.heap.size) (hs : D.size < 4611686018427387904) :
    Calls Tryz.prog 70 #[.slice (some ⟨g, 0, none⟩) D.size cap, .func (.func 71) #[] #[]] w fun e w' => e = .returned (.tuple #[]) ∧ ∃ d' q os, Sort.PermIn 0 D.size D d' ∧ Sort.SortedIn (ltOf farM) 0 D.size d' ∧ w' = sortWorld encM w g 0 q d' os :=
  have e71 : ∀ args w, (callFunc 71 args).run Tryz.prog w = .ok (.enter 71 args) w := enters_of Tryz.func71 (by kernel_rfl) rfl
  Any.slices_SortFunc Tryz.laysSort encM (fun _ => rfl) farM farM_swo 71 #[] g 0 cap D w e71 (fun m os dk hs x y => (far_any x.1 y.1 x.2 y.2 _).mono fun e w' ⟨h1, h2⟩ => ⟨h1, 0, #[], by rw [h2]; simp [World.drewN]⟩) hH hg hs

set_option maxHeartbeats 4000000 in
theorem joined_any (vc vd : Value) (c d : List Int) (M : Nat) (hM : M ≤ 6) (w : World) (hc : cubeOk M c) (hd : cubeOk M d) (hC : Reads w vc c) (hD : Reads w vd d) :
    Calls Tryz.prog 53 #[vc, vd] w fun e w' => ∃ v r, e = .returned v ∧ RS (fun b => w.heap.size ≤ b) w' v r ∧ ((∀ m, m ∈ r ↔ m ∈ c ++ d) ∧ (bothWays (c ++ d) = false → r = joinC c d)) ∧ Below w.heap.size w w' := by
  have hc6 := cube_len hc
  have hd6 := cube_len hd
  have hmem : ∀ m ∈ c ++ d, m.natAbs ≤ 6 := by
    intro m hm
    rcases List.mem_append.1 hm with h | h
    · have := hc.1 m h; omega
    · have := hd.1 m h; omega
  obtain ⟨co, ccap, rfl, lc⟩ := reads_row hC
  obtain ⟨eo, ecap, rfl, ld⟩ := reads_row hD
  obtain ⟨w1, hw1⟩ : ∃ w1, w1 = w.alloc (.cells #[.slice co c.length ccap, .slice eo d.length ecap] 23) := ⟨_, rfl⟩
  have HB1 : Hid (Below w.heap.size w w1 ∧ w1.heap.size = w.heap.size + 1) := by unfold Hid; rw [hw1]; exact ⟨below_alloc1 _ _, by simp⟩
  have HCo : Hid (Calls Tryz.prog 69 #[.slice (some ⟨w.heap.size, 0, none⟩) 2 2] w1 fun e w' => ∃ v, e = .returned v ∧ w'.ownsRow w1.heap.size 3 1 v (c.length + d.length) ((c ++ d).map (Value.int .i64)) ∧ Below w1.heap.size w1 w') := by
    have h := concatV1 [⟨co, c.length, ccap, c.map (Value.int .i64)⟩, ⟨eo, d.length, ecap, d.map (Value.int .i64)⟩] w.heap.size 2 w1 (by simp) (by have := HB1.out.2; omega) (fun k r hk => ?_) (fun r hr => ?_) (by simp [manyV]; omega)
    · have e1 : manyV [⟨co, c.length, ccap, c.map (Value.int .i64)⟩, ⟨eo, d.length, ecap, d.map (Value.int .i64)⟩] = c.length + d.length := by simp [manyV]
      have e2 : allV [⟨co, c.length, ccap, c.map (Value.int .i64)⟩, ⟨eo, d.length, ecap, d.map (Value.int .i64)⟩] = (c ++ d).map (Value.int .i64) := by simp [allV]
      rw [e1, e2] at h
      exact h
    · match k, hk with
      | 0, hk => simp at hk; subst hk; rw [hw1]; simp
      | 1, hk => simp at hk; subst hk; rw [hw1]; simp
    · simp at hr
      rcases hr with rfl | rfl
      · exact lc.below HB1.out.1
      · exact ld.below HB1.out.1
  have HJ : Hid (∀ (e : Array Int), e.toList.Perm (c ++ d) → (∀ i j, i < j → j < e.size → (e[i]!).natAbs ≤ (e[j]!).natAbs) → (∀ m, m ∈ Lib.compact e.toList ↔ m ∈ c ++ d) ∧ (bothWays (c ++ d) = false → Lib.compact e.toList = joinC c d)) := fun e hp hs => joined_is hM hc hd hp hs
  have HL : Hid (c.length ≤ 6 ∧ d.length ≤ 6) := ⟨by omega, by omega⟩
  obtain ⟨nc, hnc⟩ : ∃ nc, nc = c.length := ⟨_, rfl⟩
  obtain ⟨nd, hnd⟩ : ∃ nd, nd = d.length := ⟨_, rfl⟩
  rw [← hnc, ← hnd] at HCo hw1 HL
  rw [← hnc, ← hnd]
  have HN : Hid (nc + nd = (c ++ d).length) := by unfold Hid; simp [hnc, hnd]
  clear lc ld hc hd hC hD hc6 hd6 hnc hnd
  go_enter Tryz.func53, Tryz.ntmps53
  go_wp2_with fail
  rw [← hw1]
  clear hw1
  go_at_call 69
  refine HCo.out.mono ?_
  rintro e w2 ⟨v2, rfl, hown, hb⟩
  have HB2 : Hid (Below w.heap.size w w2 ∧ w1.heap.size ≤ w2.heap.size) := ⟨HB1.out.1.trans (hb.mono HB1.out.1.size), hb.size⟩
  have HO2 : Hid (w2.ownsRow w1.heap.size 3 1 v2 (nc + nd) ((c ++ d).map (Value.int .i64))) := hown
  clear hb hown HCo
  obtain ⟨n, hn⟩ : ∃ n, n = nc + nd := ⟨_, rfl⟩
  rw [← hn] at HO2 HN
  have HNn : Hid (n = nc + nd) := hn
  clear hn
  rcases Nat.eq_zero_or_pos n with h0 | h0
  · subst h0
    have hnil : c ++ d = [] := List.eq_nil_of_length_eq_zero HN.out.symm
    obtain ⟨vo, vcap, rfl⟩ : ∃ vo vcap, v2 = .slice vo 0 vcap := by
      rcases HO2.out.2 with ⟨rfl, _⟩ | ⟨g, cap, cur, rfl, _⟩
      · exact ⟨none, 0, rfl⟩
      · exact ⟨_, cap, rfl⟩
    have HJ0 : Hid ((∀ m, m ∈ ([] : List Int) ↔ m ∈ c ++ d) ∧ (bothWays (c ++ d) = false → ([] : List Int) = joinC c d)) := by
      have := HJ.out #[] (by rw [hnil]) (by intro i j _ hj; simp at hj)
      have e : Lib.compact (#[] : Array Int).toList = [] := by simp [Lib.compact, Lib.compactUpTo]
      rw [e] at this
      exact this
    have HSo : Hid (∀ fv, Calls Tryz.prog 70 #[.slice vo 0 vcap, fv] w2 fun e w' => e = .returned (.tuple #[]) ∧ w' = w2) := fun fv => sort_none vo vcap fv w2
    have HCm : Hid (Calls Tryz.prog 73 #[.slice vo 0 vcap] w2 fun e w' => e = .returned (.slice vo 0 vcap) ∧ w' = w2) := compact_none vo vcap w2
    clear hnil HO2 HJ
    go_wp2_with (first
      | (go_at_call 70; refine (HSo.out _).mono ?_; rintro e w' ⟨rfl, rfl⟩)
      | (go_at_call 73; refine HCm.out.mono ?_; rintro e w' ⟨rfl, rfl⟩))
    go_ret
    exact ⟨_, [], rfl, Or.inl ⟨vo, vcap, rfl, rfl⟩, HJ0.out, HB2.out.1⟩
  · obtain ⟨g, cap, rfl⟩ : ∃ g cap, v2 = .slice (some ⟨g, 0, none⟩) n cap := by
      rcases HO2.out.2 with ⟨_, hz⟩ | ⟨g, cap, cur, rfl, _⟩
      · omega
      · exact ⟨g, cap, rfl⟩
    obtain ⟨D, hD⟩ : ∃ D, D = (memsOf (c ++ d) hmem).toArray := ⟨_, rfl⟩
    have hDs : D.size = n := by rw [hD, HN.out]; simp [memsOf_len]
    have hDl : (D.toList.map (·.1)) = c ++ d := by rw [hD]; exact memsOf_val _ hmem
    have hHo : Sort.Holds encM w2 g 0 D := by rw [hD]; exact holds_mems hmem HO2.out HN.out
    have hgl := HO2.out.lt g rfl
    have hnc : n ≤ cap := by
      rcases HO2.out.2 with ⟨h, _⟩ | ⟨g', cap', cur, h, _, _, hle, _⟩
      · cases h
      · cases h; exact hle
    have HSo : Hid (Calls Tryz.prog 70 #[.slice (some ⟨g, 0, none⟩) n cap, .func (.func 71) #[] #[]] w2 fun e w' => e = .returned (.tuple #[]) ∧ ∃ d' q os, Sort.PermIn 0 D.size D d' ∧ Sort.SortedIn (ltOf farM) 0 D.size d' ∧ w' = sortWorld encM w2 g 0 q d' os) := by
      have h := sort_some g cap D w2 hHo hgl.2 (by rw [hDs]; have := HL.out; have := HNn.out; omega)
      unfold Hid
      rw [hDs] at h ⊢
      exact h
    have HD : Hid (D.size = n ∧ D.toList.map (·.1) = c ++ d ∧ Sort.Holds encM w2 g 0 D) := ⟨hDs, hDl, hHo⟩
    have HG : Hid ((w1.heap.size ≤ g ∧ g < w2.heap.size) ∧ n ≤ cap) := ⟨hgl, hnc⟩
    have h12 : n ≤ 12 := by have := HL.out; have := HNn.out; omega
    clear hDs hDl hHo hgl hnc hD hmem HO2
    go_wp2_with fail
    go_at_call 70
    refine HSo.out.mono ?_
    rintro e w3 ⟨rfl, d', q, os, hperm, hsorted, hw3⟩
    obtain ⟨zs, hzs⟩ : ∃ zs, zs = d'.toList.map (·.1) := ⟨_, rfl⟩
    have hds : d'.size = D.size := hperm.1
    have hzl : zs.length = n := by rw [hzs]; simp [hds, HD.out.1]
    have hH3 : Sort.Holds encM w3 g 0 d' := by rw [hw3]; exact holds_sortWorld encM w2 g 0 q D d' os HG.out.1.2 HD.out.2.2 hds
    have hB3 : Below w1.heap.size w2 w3 := by rw [hw3]; exact below_sort HG.out.1.1 (by have := HG.out.1; omega)
    have hzp : zs.Perm (c ++ d) := by
      have h1 := hperm.2.2
      have e1 : (d'.extract 0 D.size).toList = d'.toList := by rw [← hds]; simp
      have e2 : (D.extract 0 D.size).toList = D.toList := by simp
      rw [e1, e2] at h1
      rw [hzs, ← HD.out.2.1]
      exact h1.map _
    have hzso : ∀ i j, i < j → j < zs.toArray.size → (zs.toArray[i]!).natAbs ≤ (zs.toArray[j]!).natAbs := by
      intro i j hij hj
      have hj' : j < d'.size := by rw [hds, HD.out.1, ← hzl]; simpa using hj
      have h1 := hsorted i j (Nat.zero_le _) hij (by rw [← hds]; exact hj')
      rw [farM_lt] at h1
      have g1 : ∀ k, k < d'.size → zs.toArray[k]! = (d'[k]!).1 := fun k hk => by
        have := get_val d' k hk
        rw [← hzs] at this
        rw [← this]
        simp [hzl, ← HD.out.1, ← hds, hk]
      rw [g1 i (by omega), g1 j hj']
      simpa using h1
    have HZ : Hid ((∀ m, m ∈ Lib.compact zs ↔ m ∈ c ++ d) ∧ (bothWays (c ++ d) = false → Lib.compact zs = joinC c d)) := HJ.out zs.toArray hzp hzso
    have HCm : Hid (Calls Tryz.prog 73 #[.slice (some ⟨g, 0, none⟩) n cap] w3 fun e w' => e = .returned (.slice (some ⟨g, 0, none⟩) (Lib.compact zs).length cap) ∧ ∃ q, w' = Sort.putRow (Value.int .i64) (Sort.ahead w3 q) g 0 (Lib.compact zs ++ List.replicate (zs.length - (Lib.compact zs).length) 0).toArray) := by
      have h := compact_some g cap zs w3 (by rw [hzs]; exact holds_ints hH3) (by omega) (by rw [hzl]; exact HG.out.2)
      rw [hzl] at h
      rw [← hzl] at h ⊢
      rw [hzl] at h ⊢
      exact h
    have HH3 : Hid (Sort.Holds (Value.int .i64) w3 g 0 zs.toArray ∧ (zs.length = n ∧ g < w3.heap.size)) := ⟨by rw [hzs]; exact holds_ints hH3, hzl, by have := hB3.size; have := HG.out.1; omega⟩
    have HB3 : Hid (Below w.heap.size w w3) := HB2.out.1.trans (hB3.mono HB1.out.1.size)
    clear hperm hsorted hw3 hzs hds hzl hH3 hB3 hzp hzso HSo HJ
    go_wp2_with fail
    go_at_call 73
    refine HCm.out.mono ?_
    rintro e w4 ⟨rfl, q2, hw4⟩
    obtain ⟨r, hr⟩ : ∃ r, r = Lib.compact zs := ⟨_, rfl⟩
    rw [← hr] at HZ hw4 ⊢
    have hrl : r.length ≤ zs.length := by rw [hr]; exact Lib.compact_length_le zs
    have hr0 : 0 < r.length := by
      have hne : c ++ d ≠ [] := fun e => by have := HN.out; rw [e] at this; simp at this; omega
      obtain ⟨m, hm⟩ := List.exists_mem_of_ne_nil _ hne
      exact List.length_pos_of_mem ((HZ.out.1 m).2 hm)
    have HR4 : Hid (RS (fun b => w.heap.size ≤ b) w4 (.slice (some ⟨g, 0, none⟩) r.length cap) r ∧ Below w.heap.size w w4) := by
      refine ⟨Or.inr ⟨g, 0, cap, rfl, ⟨?_, ?_⟩, hr0, ⟨by have := HH3.out.2.1; omega, by have := HH3.out.2.1; have := HG.out.2; omega⟩, fun k hk => ?_⟩, ?_⟩
      · have := HB1.out.2; have := HG.out.1; omega
      · rw [hw4]; simp [Sort.ahead]; exact HH3.out.2.2
      · rw [hw4]
        have hsz : (r ++ List.replicate (zs.length - r.length) 0).toArray.size = zs.toArray.size := by simp; omega
        have h := Sort.cell?_putRow (Value.int .i64) (Sort.ahead w3 q2) g 0 zs.toArray (r ++ List.replicate (zs.length - r.length) 0).toArray (Sort.holds_ahead _ w3 q2 g 0 _ HH3.out.1) hsz k (by rw [hsz]; simp; omega)
        rw [h]
        congr 2
        rw [List.getD_eq_getElem?_getD, getElem!_pos _ k (by rw [hsz]; simp; omega)]
        simp [List.getElem_append_left hk, hk]
      · rw [hw4]
        exact HB3.out.trans (below_put (by have := HG.out.1; have := HB1.out.2; omega))
    clear hw4 hr hrl hr0
    go_wp2
    go_ret
    exact ⟨_, r, rfl, HR4.out.1, HZ.out, HR4.out.2⟩
end Go.Proofs.YtenmheenieifpacGreatDoor
