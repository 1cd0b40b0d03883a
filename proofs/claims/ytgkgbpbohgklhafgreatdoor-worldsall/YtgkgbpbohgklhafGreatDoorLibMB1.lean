/-
  Proved: appending a list of rows to none, and what the row then reads as. (What the walks of chapter 8's statements lean on.)
  Proved: what model.isNone, model.members and model.first return: whether an error says that there is none, the rows of a cube, and the world of the least counts that fit them; what was in memory is as it was (contracts that the statements lean on).
-/
import Derived.Test.YtgkgbpbohgklhafGreatDoorLibPB15
import Derived.Test.YtgkgbpbohgklhafGreatDoorLibPB17
import Derived.Maps.AppendAt
import Derived.Deep.AppendLies
import Derived.Test.YtgkgbpbohgklhafGreatDoorLibPB23
import Derived.Test.YtgkgbpbohgklhafGreatDoorLibPB14
import Derived.Test.YtgkgbpbohgklhafGreatDoorLibPB19
import Derived.Test.YtgkgbpbohgklhafGreatDoorLibPB7
import Derived.Test.YtgkgbpbohgklhafGreatDoorLibPB2
import Derived.Deep.CutRange
namespace Go.Proofs.YtgkgbpbohgklhafGreatDoor
open Go.ChangeShapes Go.WideShapes Go.ChangeAt Go.RowKit
set_option maxRecDepth 100000

/-- the cells of a list of rows. -/
def cellsR (l : List Rw) : List Value := l.flatMap fun r => (arrR r.t r.m).toList
theorem cellsR_append (l m : List Rw) : cellsR (l ++ m) = cellsR l ++ cellsR m := by unfold cellsR; rw [List.flatMap_append]
theorem cellsR_one (r : Rw) : cellsR [r] = (arrR r.t r.m).toList := by unfold cellsR; simp
theorem cellsR_length (l : List Rw) : (cellsR l).length = l.length * 9 := by
  induction l with
  | nil => rfl
  | cons r l ih =>
    have e : cellsR (r :: l) = (arrR r.t r.m).toList ++ cellsR l := by unfold cellsR; rw [List.flatMap_cons]
    rw [e, List.length_append, ih, List.length_cons]
    show 9 + _ = _
    omega
theorem cellsR_at (l : List Rw) : ∀ (i : Nat) (r : Rw), l[i]? = some r → ∀ f, f < 9 → (cellsR l)[i * 9 + f]? = (arrR r.t r.m)[f]? := by
  induction l with
  | nil => intro i r h; simp at h
  | cons q l ih =>
    intro i r h f hf
    have e : cellsR (q :: l) = (arrR q.t q.m).toList ++ cellsR l := by unfold cellsR; rw [List.flatMap_cons]
    have hl : (arrR q.t q.m).toList.length = 9 := rfl
    rw [e]
    cases i with
    | zero =>
      obtain rfl : q = r := by simpa using h
      rw [List.getElem?_append_left (by omega), show 0 * 9 + f = f by omega, Array.getElem?_toList]
    | succ i =>
      rw [List.getElem?_append_right (by omega), hl, show (i + 1) * 9 + f - 9 = i * 9 + f by omega]
      exact ih i r (by simpa using h) f hf
theorem cellsR_one' (l : List Rw) : ∀ u ∈ cellsR l, u.oneCell' = true := by
  intro u hu
  unfold cellsR at hu
  rw [List.mem_flatMap] at hu
  obtain ⟨r, _, h⟩ := hu
  simp [arrR] at h
  rcases h with rfl | rfl | rfl | rfl | rfl | rfl | rfl | rfl | rfl <;> rfl
theorem RowAt.all {w : World} {b off : Nat} {r : Rw} (h : RowAt w b off r) : ∀ f, f < 9 → w.cell? ⟨b, off + f, none⟩ = (arrR r.t r.m)[f]? := by
  obtain ⟨h0, h1, h2, h3, h4, h5, h6, h7, h8⟩ := h
  intro f hf
  have d : f = 0 ∨ f = 1 ∨ f = 2 ∨ f = 3 ∨ f = 4 ∨ f = 5 ∨ f = 6 ∨ f = 7 ∨ f = 8 := by omega
  rcases d with rfl | rfl | rfl | rfl | rfl | rfl | rfl | rfl | rfl
  · exact h0
  · exact h1
  · exact h2
  · exact h3
  · exact h4
  · exact h5
  · exact h6
  · exact h7
  · exact h8
theorem rows_news {w : World} {b off : Nat} {l : List Rw} (h : ∀ i r, l[i]? = some r → RowAt w b (off + i * 9) r) : ∀ j u, (cellsR l)[j]? = some u → w.cell? ((⟨b, off, none⟩ : Addr).add j) = some u := by
  intro j u hu
  have hj : j < l.length * 9 := by rw [← cellsR_length]; exact (List.getElem?_eq_some_iff.1 hu).1
  have hi : j / 9 < l.length := by omega
  have hr := List.getElem?_eq_getElem hi
  have h1 := cellsR_at l (j / 9) _ hr (j % 9) (by omega)
  rw [show j / 9 * 9 + j % 9 = j by omega, hu] at h1
  have h2 := (h (j / 9) _ hr).all (j % 9) (by omega)
  rw [← h1] at h2
  rw [show (⟨b, off, none⟩ : Addr).add j = ⟨b, off + j, none⟩ by simp [Addr.add], show off + j = off + j / 9 * 9 + j % 9 by omega]
  exact h2
theorem own_readsR {w : World} {K : Nat} {v : Value} {l : List Rw} (h : w.ownsRow K 137 9 v l.length (cellsR l)) (hm : l.length ≤ 9223372036854775807) : ReadsR w v l := by
  rcases h.2 with ⟨rfl, h0⟩ | ⟨g, cap, cur, rfl, hb, hg, hc, hmx, hs, ht⟩
  · exact Or.inl ⟨none, 0, rfl, List.eq_nil_of_length_eq_zero h0⟩
  · rcases Nat.eq_zero_or_pos l.length with h0 | h0
    · have e : l = [] := List.eq_nil_of_length_eq_zero h0
      subst e
      exact Or.inl ⟨_, _, rfl, rfl⟩
    · refine Or.inr ⟨g, 0, cap, rfl, (Array.getElem?_eq_some_iff.1 hg).1, h0, ⟨hm, hc⟩, fun i r hr => ?_⟩
      have hi : i < l.length := (List.getElem?_eq_some_iff.1 hr).1
      have k : ∀ f, f < 9 → w.cell? ⟨g, 0 + i * 9 + f, none⟩ = (arrR r.t r.m)[f]? := fun f hf => by
        rw [cell_of_row w g _ cur _ (0, 0) hg]
        have hx := cellsR_at l i r hr f hf
        rw [← ht, List.getElem?_take_of_lt (by omega)] at hx
        rw [show 0 + i * 9 + f = i * 9 + f by omega, ← Array.getElem?_toList]
        exact hx
      exact ⟨k 0 (by omega), k 1 (by omega), k 2 (by omega), k 3 (by omega), k 4 (by omega), k 5 (by omega), k 6 (by omega), k 7 (by omega), k 8 (by omega)⟩
theorem infoI9 : (Tryz.prog.info? 137).isSome = true := by kernel_rfl
theorem zeroI9 : (Tryz.prog.info? 137).bind (·.zero) = some (.agg #[.int .i64 0, .int .i64 0, .int .i64 0, .int .i64 0, .int .i64 0, .int .i64 0, .int .i64 0, .int .i64 0, .int .i64 0]) := by kernel_rfl
theorem sizeI9 : (Tryz.prog.info? 137).map (·.size) = some 9 := by kernel_rfl
theorem bytesI9 : (Tryz.prog.info? 137).map (·.bytes) = some 72 := by kernel_rfl
/-- a list of rows, appended to none. -/
theorem append_rows {w : World} {ops : Array Oper} {rest : List Oper} {o : Oper} {a : Act} {Q : Exit → Act → World → Prop} (hgd : o.guard = none) (s x : Operand)
    (ho : o.op = .call { callee := .builtin .append, args := #[s, x], argTypes := #[105, 105] }) (hs : a.eval s = .slice none 0 0) (v : Value) (hx : a.eval x = v) (l : List Rw) (hR : ReadsR w v l) (h12 : l.length ≤ 12)
    (h : ∀ v' w', w'.ownsRow w.heap.size 137 9 v' l.length (cellsR l) → w.grownBy w' none → wpList Tryz.prog ops Q rest (a.put o.dst v') w') :
    wpList Tryz.prog ops Q (o :: rest) a w := by
  obtain ⟨i9, hi⟩ : ∃ i, Tryz.prog.info? 137 = some i := Option.isSome_iff_exists.1 infoI9
  have hz0 : i9.zero = some (.agg #[.int .i64 0, .int .i64 0, .int .i64 0, .int .i64 0, .int .i64 0, .int .i64 0, .int .i64 0, .int .i64 0, .int .i64 0]) := by have := zeroI9; rw [hi] at this; simpa using this
  have hz1 : i9.size = 9 := by have := sizeI9; rw [hi] at this; simpa using this
  have hz2 : i9.bytes = 72 := by have := bytesI9; rw [hi] at this; simpa using this
  rcases hR with ⟨ao, cap, rfl, rfl⟩ | ⟨b, off, cap, rfl, hB, h0, ⟨hl, hcp⟩, hc⟩
  · have hrun : (Builtin.append_ #[105, 105] o.type #[.slice none 0 0, .slice ao 0 cap]).run Tryz.prog w = .ok (.slice none 0 0) w := by
      cases ao <;> simp [Builtin.append_, run_underlying Tryz.underlying105, sizeOf, typeInfo, hi, Builtin.lenOf, Builtin.firstCells, loadCells, loadCellsFrom]
    refine wpList_plain hgd fun K hK' => ?_
    unfold Oper.wp
    simp [execOp, ho, resolve, invoke, builtin, hs, hx, hrun, Result.andThen]
    exact hK' _ _ (h _ _ (World.ownsRow_nil _ _ _ _) ⟨rfl, rfl, rfl, Nat.le_refl _, fun _ _ _ => rfl⟩)
  · refine wpList_append_own_at w hgd s x 105 ho w.heap.size 137 i9 _ 9 72 Tryz.underlying105 hi hz0 hz1 hz2 rfl (by decide) (.slice none 0 0) 0 [] hs (World.ownsRow_nil _ _ _ _) ⟨b, off, none⟩ l.length cap (cellsR l) hx (cellsR_length l) (rows_news hc) (cellsR_one' l) (by unfold maxLen; omega) (by omega) (Nat.le_refl _) ?_
    intro v' w' h1 h2 _ _
    rw [Nat.zero_add, List.nil_append] at h1
    exact h v' w' h1 h2
/-- one row more, out of a block of its own. -/
theorem append_one {w : World} {ops : Array Oper} {rest : List Oper} {o : Oper} {a : Act} {Q : Exit → Act → World → Prop} (hgd : o.guard = none) (s x : Operand)
    (ho : o.op = .call { callee := .builtin .append, args := #[s, x], argTypes := #[105, 105] }) (K : Nat) (v : Value) (hs : a.eval s = v) (l : List Rw) (r : Rw) (B c : Nat) (hx : a.eval x = .slice (some ⟨B, 0, none⟩) 1 c)
    (hown : w.ownsRow K 137 9 v l.length (cellsR l)) (hB : w.heap[B]? = some (.cells (arrR r.t r.m) 137 (0, 0))) (hK : K ≤ w.heap.size) (h12 : l.length ≤ 12)
    (h : ∀ v' w', w'.ownsRow K 137 9 v' (l ++ [r]).length (cellsR (l ++ [r])) → w.grownBy w' v.ownBlock → wpList Tryz.prog ops Q rest (a.put o.dst v') w') :
    wpList Tryz.prog ops Q (o :: rest) a w := by
  obtain ⟨i9, hi⟩ : ∃ i, Tryz.prog.info? 137 = some i := Option.isSome_iff_exists.1 infoI9
  have hz0 : i9.zero = some (.agg #[.int .i64 0, .int .i64 0, .int .i64 0, .int .i64 0, .int .i64 0, .int .i64 0, .int .i64 0, .int .i64 0, .int .i64 0]) := by have := zeroI9; rw [hi] at this; simpa using this
  have hz1 : i9.size = 9 := by have := sizeI9; rw [hi] at this; simpa using this
  have hz2 : i9.bytes = 72 := by have := bytesI9; rw [hi] at this; simpa using this
  refine wpList_append_own_at w hgd s x 105 ho K 137 i9 _ 9 72 Tryz.underlying105 hi hz0 hz1 hz2 rfl (by decide) v l.length (cellsR l) hs hown ⟨B, 0, none⟩ 1 c (arrR r.t r.m).toList hx rfl (World.news_of_block hB) (by simp [arrR, Value.oneCell']) (by unfold maxLen; omega) (by omega) hK ?_
  intro v' w' h1 h2 _ _
  refine h v' w' ?_ h2
  rw [cellsR_append, cellsR_one, List.length_append]
  exact h1
end Go.Proofs.YtgkgbpbohgklhafGreatDoor

namespace Go.Proofs.YtgkgbpbohgklhafGreatDoor
open Go.ChangeShapes Go.WideShapes Go.ChangeAt Go.RowKit Go.Extern.Stop Go.Stop Go.Extern
set_option maxRecDepth 100000

theorem as_nil (t : Addr) (w : World) : Calls Tryz.prog 51 #[.nilIface, .iface 92 (.pointer (some t))] w fun e w' => e = .returned (.bool false) ∧ w = w' := by
  go_enter Tryz.func51, Tryz.ntmps51
  go_wp2
  go_ret
  exact ⟨rfl, rfl⟩
theorem isNone_nil (w : World) : Calls Tryz.prog 39 #[.nilIface] w fun e w' => e = .returned (.bool false) ∧ Below w.heap.size w w' := by
  go_enter Tryz.func39, Tryz.ntmps39
  go_wp2_with (go_at_call 51; refine (as_nil _ _).mono ?_; rintro e w' ⟨rfl, rfl⟩)
  go_ret
  exact ⟨rfl, below_alloc1 _ _⟩
set_option maxHeartbeats 1000000 in
theorem isNone_err (n : Int) (w : World) (hg : Laid w) : Calls Tryz.prog 39 #[.iface 61 (.int .i64 n)] w fun e w' => e = .returned (.bool (n == 5)) ∧ Below w.heap.size w w' := by
  have hgA : (w.alloc (.cells #[.int .i64 0] 61)).cell? ⟨1, 0, none⟩ = some (.iface 145 (.agg #[.pointer (some ⟨3, 23, none⟩)])) := by
    rw [World.cell?_alloc_lt _ _ ⟨1, 0, none⟩ hg.lt]; exact hg
  have htA : (w.alloc (.cells #[.int .i64 0] 61)).cell? ⟨w.heap.size, 0, none⟩ = some (.int .i64 0) := by simp
  have hfA : (w.alloc (.cells #[.int .i64 0] 61)).frozen? ⟨w.heap.size, 0, none⟩ = false := by simp
  clear hg
  go_enter Tryz.func39, Tryz.ntmps39
  go_wp2_with (go_at_call 51; refine (as_hit _ _ _ _ hgA htA hfA).mono ?_; rintro e w' ⟨rfl, rfl⟩)
  go_ret
  refine ⟨rfl, ?_⟩
  exact ((((((Below.refl _ _).alloc (Nat.le_refl _) _).alloc (by simp) _).alloc (by simp; omega) _).alloc (by simp; omega) _).alloc (by simp; omega) _)

set_option maxHeartbeats 8000000 in
theorem members_any (ats : List At) (d : List Int) (ao : Option Addr) (acap : Nat) (dao : Option Addr) (dcap : Nat) (w : World) (hA : ReadsA w (.slice ao ats.length acap) ats) (hD : Reads w (.slice dao d.length dcap) d) (hK : KindsLaid w) (hL : TimesLaid w)
    (hflt : ∀ a ∈ ats, a.fault = 0) (h6 : ats.length ≤ 6) (hok : cubeOk ats.length d) :
    Calls Tryz.prog 66 #[.slice ao ats.length acap, .slice dao d.length dcap] w fun e w' => ∃ ro rcap, e = .returned (.tuple #[.slice ro (cubeR ats d).length rcap, .nilIface]) ∧ ReadsR w' (.slice ro (cubeR ats d).length rcap) (cubeR ats d) ∧ Below w.heap.size w w' := by
  have HA : Hid (ReadsA w (.slice ao ats.length acap) ats) := hA
  have HD : Hid (Reads w (.slice dao d.length dcap) d) := hD
  have HK : Hid (KindsLaid w) := hK
  have HL : Hid (TimesLaid w) := hL
  have Hflt : Hid (∀ a ∈ ats, a.fault = 0) := hflt
  have HDok : Hid (cubeOk ats.length d) := hok
  have hd6 : d.length ≤ 6 := by have := cube_len hok; omega
  obtain ⟨M, hMe⟩ : ∃ M, M = ats.length := ⟨_, rfl⟩
  obtain ⟨nd, hnd⟩ : ∃ x, x = d.length := ⟨_, rfl⟩
  rw [← hMe] at HA h6
  rw [← hnd] at HD hd6
  rw [← hMe, ← hnd]
  have HMe : Hid (M = ats.length) := hMe
  have HND : Hid (nd = d.length) := hnd
  clear hA hD hK hL hflt hok hMe hnd
  go_enter Tryz.func66, Tryz.ntmps66
  go_wp2
  go_loopw [6, 13] (fun r i wx => ∃ kk : Nat, kk ≤ nd ∧ i = .int .i64 kk ∧ wx.ownsRow w.heap.size 137 9 r kk (cellsR ((d.take kk).map (rowOf ats))) ∧ Below w.heap.size w wx) (fun _ i _ => nd - (intOf i).toNat)
  case atStart => exact ⟨0, Nat.zero_le _, rfl, World.ownsRow_nil _ _ _ _, Below.refl _ _⟩
  case round =>
    obtain ⟨kk, hkk, rfl, hown, hbx⟩ := hrel
    have HBx : Hid (Below w.heap.size w wr) := hbx
    have HOw : Hid (wr.ownsRow w.heap.size 137 9 u6 kk (cellsR ((d.take kk).map (rowOf ats)))) := hown
    clear hbx hown
    by_cases hl2 : kk < nd
    · obtain ⟨bd, od, hdo, z⟩ : ∃ bd od, dao = some ⟨bd, od, none⟩ ∧ wr.cell? ⟨bd, od + kk, none⟩ = some (.int .i64 (d.getD kk 0)) := by
        rcases HD.out with ⟨ao, cap, hv, h0⟩ | ⟨b, off, cap, hv, hb, _, _, hcell⟩
        · have := HND.out; rw [h0] at this; simp at this; omega
        · obtain ⟨h1, _, _⟩ := Value.slice.inj hv
          exact ⟨b, off, h1, (HBx.out.cell hb).trans (hcell kk (by rw [← HND.out]; exact hl2))⟩
      subst hdo
      have HM : Hid (d[kk]? = some (d.getD kk 0)) := by
        unfold Hid
        have : kk < d.length := by rw [← HND.out]; exact hl2
        rw [List.getD_eq_getElem?_getD, List.getElem?_eq_getElem this]; rfl
      obtain ⟨m, hm⟩ : ∃ m, m = d.getD kk 0 := ⟨_, rfl⟩
      rw [← hm] at HM z
      clear hm
      obtain ⟨m1, m2⟩ := HDok.out.1 m (List.mem_of_getElem? HM.out)
      obtain ⟨j, hj⟩ : ∃ j, m.natAbs = j + 1 := ⟨m.natAbs - 1, by omega⟩
      have hjM : j < M := by rw [HMe.out]; omega
      have hj6 : j < 6 := by omega
      obtain ⟨a, ha⟩ : ∃ a, a = ats.getD (m.natAbs - 1) atZ := ⟨_, rfl⟩
      have haj : ats[j]? = some a := by
        have : j < ats.length := by rw [← HMe.out]; exact hjM
        rw [ha, hj, Nat.add_sub_cancel, List.getD_eq_getElem?_getD, List.getElem?_eq_getElem this]; rfl
      have hfa : atomFault a.k a.s a.t a.n = 0 := Hflt.out a (List.mem_of_getElem? haj)
      have HRow : Hid (rowOf ats m = Rw.mk (rowT a.k a.s a.t (decide (0 < m))) (rowM a.k a.n (decide (0 < m)))) := by unfold Hid rowOf; rw [← ha]
      obtain ⟨bA, oA, hao, hat⟩ : ∃ bA oA, ao = some ⟨bA, oA, none⟩ ∧ AtomAt wr bA (oA + j * 4) a := by
        rcases HA.out.below HBx.out with ⟨ao', cap, hv, h0⟩ | ⟨b, off, cap, hv, hb, _, _, hcell⟩
        · rw [h0] at haj; simp at haj
        · obtain ⟨h1, _, _⟩ := Value.slice.inj hv
          exact ⟨b, off, h1, hcell j a haj⟩
      subst hao
      obtain ⟨vs, vt, c0, c1, c2, c3, hs, ht⟩ := hat
      obtain ⟨so, sc, rfl, _⟩ := hs.slice
      obtain ⟨tto, tc, rfl, _⟩ := ht.slice
      obtain ⟨sl, hsl⟩ : ∃ x, x = a.s.length := ⟨_, rfl⟩
      obtain ⟨tl, htl⟩ : ∃ x, x = a.t.length := ⟨_, rfl⟩
      obtain ⟨ak, hak⟩ : ∃ x, x = a.k := ⟨_, rfl⟩
      obtain ⟨an, han⟩ : ∃ x, x = a.n := ⟨_, rfl⟩
      obtain ⟨T, hT⟩ : ∃ x, x = rowT a.k a.s a.t (decide (0 < m)) := ⟨_, rfl⟩
      obtain ⟨mm, hmm⟩ : ∃ x, x = rowM a.k a.n (decide (0 < m)) := ⟨_, rfl⟩
      have HR0 : Hid (Calls Tryz.prog 88 #[.agg #[.int .i64 ak, .slice so sl sc, .slice tto tl tc, .int .i64 an], .bool (decide (0 < m))] wr fun e w' => e = .returned (.tuple #[.agg #[.int .i64 (T 0), .int .i64 (T 1), .int .i64 (T 2), .int .i64 (T 3), .int .i64 (T 4), .int .i64 (T 5), .int .i64 (T 6), .int .i64 (T 7), .int .i64 mm], .nilIface]) ∧ Below wr.heap.size wr w') := by
        have h := rowsOf_any a.k a.n (decide (0 < m)) _ _ a.s a.t wr hs ht (HK.out.below HBx.out) (HL.out.below HBx.out)
        unfold ofT ofM at h
        rw [if_pos hfa, if_pos hfa, hfa] at h
        unfold Hid
        rw [hak, han, hsl, htl, hT, hmm]
        exact h
      rw [← hsl] at c1
      rw [← htl] at c2
      rw [← hak] at c0
      rw [← han] at c3
      rw [← hT, ← hmm] at HRow
      clear hs ht hfa haj ha hsl htl hak han hT hmm m1 m2
      go_upto_region 5 with fail
      clear z
      go_cut [9, 10] from 14 to 38 (fun g e wx => ∃ G, g = .pointer (some ⟨G, 0, none⟩) ∧ e = .nilIface ∧ Blk wx G 137 (arrR T mm) ∧ wr.heap.size ≤ G ∧ Below wr.heap.size wr wx)
      case first =>
        rcases (by omega : m = (j : Int) + 1 ∨ m = -((j : Int) + 1)) with rfl | rfl
        · rw [decide_eq_true (by omega : (0 : Int) < (j : Int) + 1)] at HR0
          have mx1 : max ((j : Int) + 1) (-((j : Int) + 1)) = (j : Int) + 1 := by omega
          have mx2 : max (-((j : Int) + 1)) ((j : Int) + 1) = (j : Int) + 1 := by omega
          clear hj
          go_wp2_with fail
          go_at_call 88
          refine HR0.out.mono ?_
          rintro e w5 ⟨rfl, hb5⟩
          go_wp2_with fail
          go_meet
          exact ⟨w5.heap.size, rfl, rfl, Blk.new w5 _ _, hb5.size, hb5.alloc hb5.size _⟩
        · rw [decide_eq_false (by omega : ¬ (0 : Int) < -((j : Int) + 1))] at HR0
          have mx1 : max ((j : Int) + 1) (-((j : Int) + 1)) = (j : Int) + 1 := by omega
          have mx2 : max (-((j : Int) + 1)) ((j : Int) + 1) = (j : Int) + 1 := by omega
          clear hj
          go_wp2_with fail
          go_at_call 88
          refine HR0.out.mono ?_
          rintro e w5 ⟨rfl, hb5⟩
          go_wp2_with fail
          go_meet
          exact ⟨w5.heap.size, rfl, rfl, Blk.new w5 _ _, hb5.size, hb5.alloc hb5.size _⟩
      case rest =>
        obtain ⟨G, rfl, rfl, hG, hG2, hbc⟩ := hcut
        obtain ⟨w6, hw6⟩ : ∃ x, x = wc := ⟨_, rfl⟩
        subst hw6
        have HB6 : Hid (Below w.heap.size w w6) := HBx.out.trans (hbc.mono HBx.out.size)
        have hlen : ((d.take kk).map (rowOf ats)).length = kk := by rw [List.length_map, List.length_take, ← HND.out]; omega
        obtain ⟨l, hl⟩ : ∃ l, l = (d.take kk).map (rowOf ats) := ⟨_, rfl⟩
        have HO6 : Hid (w6.ownsRow w.heap.size 137 9 u6 l.length (cellsR l)) := by
          have h := ownsRow_same HOw.out hbc.block
          unfold Hid
          rw [hl, hlen]
          exact h
        have HLl : Hid (l.length = kk) := by unfold Hid; rw [hl]; exact hlen
        have HLs : Hid ((d.take (kk + 1)).map (rowOf ats) = l ++ [Rw.mk T mm]) := by
          unfold Hid
          rw [List.take_add_one, HM.out, List.map_append, ← hl, ← HRow.out]; rfl
        have HS6 : Hid (w.heap.size ≤ w6.heap.size) := HB6.out.size
        obtain ⟨r0, r1, r2, r3, r4, r5, r6, r7, r8⟩ := hG.cells9
        clear hG hG2 hbc hl hlen c0 c1 c2 c3 hj
        have hl12 : l.length ≤ 12 := by have := HLl.out; omega
        go_wp2_with (at_builtin; refine append_one rfl _ _ rfl w.heap.size u6 rfl l (Rw.mk T mm) w6.heap.size 1 rfl (HO6.out.alloc _) (heap_alloc_new w6 _) (by have := HS6.out; simp; omega) hl12 ?_)
        intro v9 w9 hown hgrow
        have HBa : Hid (Below w.heap.size w (w6.alloc (.cells #[.int .i64 (T 0), .int .i64 (T 1), .int .i64 (T 2), .int .i64 (T 3), .int .i64 (T 4), .int .i64 (T 5), .int .i64 (T 6), .int .i64 (T 7), .int .i64 mm] 137))) := HB6.out.alloc HB6.out.size _
        have HB9 : Hid (Below w.heap.size w w9) := HBa.out.grown hgrow HBa.out.size (fun x hx => (HO6.out.lt x hx).1)
        have HO9 : Hid (w9.ownsRow w.heap.size 137 9 v9 (kk + 1) (cellsR ((d.take (kk + 1)).map (rowOf ats)))) := by
          unfold Hid
          rw [HLs.out]
          have h : w9.ownsRow w.heap.size 137 9 v9 (l.length + 1) (cellsR (l ++ [Rw.mk T mm])) := hown
          rw [HLl.out] at h
          exact h
        clear hown hgrow r0 r1 r2 r3 r4 r5 r6 r7 r8
        go_wp2
        go_roundw
        case rel => exact ⟨kk + 1, by omega, by go_num, HO9.out, HB9.out⟩
        case measure => simp [intOf]; omega
    · obtain rfl : kk = nd := by omega
      have hlen : ((d.take kk).map (rowOf ats)).length = kk := by rw [List.length_map, List.length_take, ← HND.out]; omega
      have hcb : (d.take kk).map (rowOf ats) = cubeR ats d := by rw [HND.out, List.take_length]; rfl
      have hRr : ReadsR wr u6 (cubeR ats d) := by
        have h := HOw.out
        rw [hcb] at h hlen
        rw [← hlen] at h
        exact own_readsR h (by omega)
      obtain ⟨ro, rcap, hru, _⟩ := hRr.slice
      subst hru
      have HRr : Hid (ReadsR wr (.slice ro (cubeR ats d).length rcap) (cubeR ats d)) := hRr
      clear hRr hlen hcb
      go_wp2
      go_ret2
      exact ⟨ro, rcap, rfl, HRr.out, HBx.out⟩

theorem many_find {A : List (Nat → Int)} {p : (Nat → Int) → Bool} : (A.find? p = none → manyD A p 0 = 0) ∧ ∀ N, A.find? p = some N → ¬ manyD A p 0 = 0 ∧ leastD A p 0 = N := by
  unfold manyD leastD
  rw [List.drop_zero]
  refine ⟨fun h => ?_, fun N h => ⟨fun h0 => ?_, by rw [h]; rfl⟩⟩
  · rw [List.length_eq_zero_iff, List.filter_eq_nil_iff]
    intro x hx
    simpa using List.find?_eq_none.1 h x hx
  · rw [List.length_eq_zero_iff, List.filter_eq_nil_iff] at h0
    exact absurd (List.find?_some h) (by simpa using h0 N (List.mem_of_find?_eq_some h))

set_option maxHeartbeats 4000000 in
theorem mfirst_any (n : Nat) (hn : n ≤ 6) (ats : List At) (d : List Int) (ao : Option Addr) (acap : Nat) (dao : Option Addr) (dcap : Nat) (w : World) (hA : ReadsA w (.slice ao ats.length acap) ats) (hD : Reads w (.slice dao d.length dcap) d) (hK : KindsLaid w) (hL : TimesLaid w)
    (hflt : ∀ a ∈ ats, a.fault = 0) (h6 : ats.length ≤ 6) (hok : cubeOk ats.length d) :
    Calls Tryz.prog 38 #[.slice ao ats.length acap, .slice dao d.length dcap, .int .i64 n] w fun e w' =>
      ((∃ N, (everyC n).find? (fitB (cubeR ats d)) = some N ∧ e = .returned (.tuple #[.agg (arrW (madeN N 8)), .nilIface])) ∨ ((everyC n).find? (fitB (cubeR ats d)) = none ∧ e = .returned (.tuple #[.agg (arrW ⟨0, 0, 0, 0⟩), .iface 61 (.int .i64 5)]))) ∧ Below w.heap.size w w' := by
  have hff : fitFault (n : Int) (cubeR ats d) = 0 := by unfold fitFault; rw [if_pos ⟨by omega, by omega⟩]; exact cube_rows hflt h6 hok
  have HM : Hid (∀ W, Below w.heap.size w W → Calls Tryz.prog 66 #[.slice ao ats.length acap, .slice dao d.length dcap] W fun e w' => ∃ ro rl rcap, e = .returned (.tuple #[.slice ro rl rcap, .nilIface]) ∧ (∀ W', Below w'.heap.size w' W' → Calls Tryz.prog 67 #[.int .i64 n, .slice ro rl rcap] W' fun e w'' => e = .returned (.tuple #[.agg (arr8 (leastN n (cubeR ats d))), errV (leastFault n (cubeR ats d))]) ∧ Below W'.heap.size W' w'') ∧ Below W.heap.size W w') := fun W hW => by
    refine (members_any ats d ao acap dao dcap W (hA.below hW) (hD.below hW) (hK.below hW) (hL.below hW) hflt h6 hok).mono ?_
    rintro e w' ⟨ro, rcap, rfl, hR, hb⟩
    exact ⟨ro, _, rcap, rfl, fun W' hW' => least_any n (cubeR ats d) _ W' (hR.below hW'), hb⟩
  obtain ⟨f1, f2⟩ := @many_find (everyC n) (fitB (cubeR ats d))
  have efault : leastFault (n : Int) (cubeR ats d) = if manyD (everyC n) (fitB (cubeR ats d)) 0 = 0 then 5 else 0 := by
    have hm : fitManyN (n : Int) (cubeR ats d) = (manyD (everyC n) (fitB (cubeR ats d)) 0 : Int) := by unfold fitManyN; rw [if_pos hff, Int.toNat_natCast]
    unfold leastFault
    rw [if_pos hff, hm]
    by_cases h : manyD (everyC n) (fitB (cubeR ats d)) 0 = 0
    · rw [if_pos h, if_pos (by omega)]
    · rw [if_neg h, if_neg (by omega)]
  have eleast : leastN (n : Int) (cubeR ats d) = leastD (everyC n) (fitB (cubeR ats d)) 0 := by unfold leastN; rw [if_pos hff, Int.toNat_natCast]
  obtain ⟨w1, hw1⟩ : ∃ w1, w1 = w.alloc (.cells #[.int .i64 0, .int .i64 0, .int .i64 0, .int .i64 0] 37) := ⟨_, rfl⟩
  have HB1 : Hid (Below w.heap.size w w1) := by unfold Hid; rw [hw1]; exact below_alloc1 _ _
  have HP1 : Hid (Blk w1 w.heap.size 37 (arrW ⟨0, 0, 0, 0⟩)) := by unfold Hid; rw [hw1]; exact Blk.new _ _ _
  obtain ⟨M, hMe⟩ : ∃ M, M = ats.length := ⟨_, rfl⟩
  obtain ⟨nd, hnd⟩ : ∃ x, x = d.length := ⟨_, rfl⟩
  rw [← hMe, ← hnd] at HM ⊢
  cases hfd : (everyC n).find? (fitB (cubeR ats d)) with
  | none =>
    rw [efault, if_pos (f1 hfd)] at HM
    obtain ⟨N, hN⟩ : ∃ N, N = leastN (n : Int) (cubeR ats d) := ⟨_, rfl⟩
    rw [← hN] at HM
    clear hff hA hD hK hL hflt h6 hok f1 f2 efault eleast hMe hnd hN hfd
    go_enter Tryz.func38, Tryz.ntmps38
    go_wp2_with fail
    rw [← hw1]
    clear hw1
    go_wp2_with fail
    go_at_call 66
    refine (HM.out _ HB1.out).mono ?_
    rintro e w2 ⟨ro, rl, rcap, rfl, hLe, hb⟩
    have HLe : Hid (∀ W', Below w2.heap.size w2 W' → Calls Tryz.prog 67 #[.int .i64 n, .slice ro rl rcap] W' fun e w'' => e = .returned (.tuple #[.agg (arr8 N), .iface 61 (.int .i64 5)]) ∧ Below W'.heap.size W' w'') := hLe
    have HB2 : Hid (Below w.heap.size w w2) := HB1.out.trans (hb.mono HB1.out.size)
    have HP2 : Hid (Blk w2 w.heap.size 37 (arrW ⟨0, 0, 0, 0⟩)) := HP1.out.below hb
    clear hLe hb
    go_wp2_with fail
    go_at_call 67
    refine (HLe.out _ (Below.refl _ _)).mono ?_
    rintro e w3 ⟨rfl, hb⟩
    have HB3 : Hid (Below w.heap.size w w3) := HB2.out.trans (hb.mono HB2.out.size)
    have HP3 : Hid (Blk w3 w.heap.size 37 (arrW ⟨0, 0, 0, 0⟩)) := HP2.out.below hb
    clear hb
    obtain ⟨w4, hw4⟩ : ∃ w4, w4 = w3.alloc (.cells (arr8 N) 64) := ⟨_, rfl⟩
    have HB4 : Hid (Below w.heap.size w w4) := by unfold Hid; rw [hw4]; exact HB3.out.alloc HB3.out.size _
    have HP4 : Hid (Blk w4 w.heap.size 37 (arrW ⟨0, 0, 0, 0⟩)) := by unfold Hid; rw [hw4]; exact HP3.out.old _
    unfold arr8 at hw4 ⊢
    go_upto_region 5 with fail
    rw [← hw4]
    clear hw4
    have p0 : w4.cell? ⟨w.heap.size, 0, none⟩ = some (.int .i64 0) := HP4.out.cell 0
    have p1 : w4.cell? ⟨w.heap.size, 1, none⟩ = some (.int .i64 0) := HP4.out.cell 1
    have p2 : w4.cell? ⟨w.heap.size, 2, none⟩ = some (.int .i64 0) := HP4.out.cell 2
    have p3 : w4.cell? ⟨w.heap.size, 3, none⟩ = some (.int .i64 0) := HP4.out.cell 3
    obtain ⟨q0, q1, q2, q3⟩ := HP4.out.frozen4
    go_wp2
    have hld := loadW (putW_blk HP4.out ⟨0, 0, 0, 0⟩)
    refine bodyPost_ret (v := .tuple #[.agg (arrW ⟨0, 0, 0, 0⟩), .iface 61 (.int .i64 5)]) ?_ rfl ⟨Or.inr ⟨by first | rfl | trivial, rfl⟩, ?_⟩
    · rw [results_cell_tmp rfl]
      unfold putW arrW at hld
      simp only at hld
      simp [asAddr, Result.andThen, hld, arrW]
    · exact putW_below HB4.out (Nat.le_refl _) ⟨0, 0, 0, 0⟩
  | some N =>
    obtain ⟨g1, g2⟩ := f2 N hfd
    rw [efault, if_neg g1, eleast, g2] at HM
    have hcN : countsFault N = 0 := everyC_right hn (List.mem_of_find?_eq_some hfd)
    have HW : Hid (∀ W, Calls Tryz.prog 61 #[.agg #[.int .i64 (N 0), .int .i64 (N 1), .int .i64 (N 2), .int .i64 (N 3), .int .i64 (N 4), .int .i64 (N 5), .int .i64 (N 6), .int .i64 (N 7)]] W fun e w' => e = .returned (.tuple #[.agg #[.int .i64 (madeN N 8).u, .int .i64 (madeN N 8).a, .int .i64 (madeN N 8).b, .int .i64 (madeN N 8).c], .nilIface]) ∧ Below W.heap.size W w') := fun W => by
      have h := fworld_any N W
      unfold madeW at h
      rw [if_pos hcN, hcN] at h
      exact h
    obtain ⟨D, hDe⟩ : ∃ D, D = madeN N 8 := ⟨_, rfl⟩
    rw [← hDe] at HW
    have HDe : Hid (D = madeN N 8) := hDe
    clear hff hA hD hK hL hflt h6 hok f1 f2 efault eleast hMe hnd hfd g1 g2 hcN hDe
    go_enter Tryz.func38, Tryz.ntmps38
    go_wp2_with fail
    rw [← hw1]
    clear hw1
    go_wp2_with fail
    go_at_call 66
    refine (HM.out _ HB1.out).mono ?_
    rintro e w2 ⟨ro, rl, rcap, rfl, hLe, hb⟩
    have HLe : Hid (∀ W', Below w2.heap.size w2 W' → Calls Tryz.prog 67 #[.int .i64 n, .slice ro rl rcap] W' fun e w'' => e = .returned (.tuple #[.agg (arr8 N), .nilIface]) ∧ Below W'.heap.size W' w'') := hLe
    have HB2 : Hid (Below w.heap.size w w2) := HB1.out.trans (hb.mono HB1.out.size)
    have HP2 : Hid (Blk w2 w.heap.size 37 (arrW ⟨0, 0, 0, 0⟩)) := HP1.out.below hb
    clear hLe hb
    go_wp2_with fail
    go_at_call 67
    refine (HLe.out _ (Below.refl _ _)).mono ?_
    rintro e w3 ⟨rfl, hb⟩
    have HB3 : Hid (Below w.heap.size w w3) := HB2.out.trans (hb.mono HB2.out.size)
    have HP3 : Hid (Blk w3 w.heap.size 37 (arrW ⟨0, 0, 0, 0⟩)) := HP2.out.below hb
    clear hb
    obtain ⟨w4, hw4⟩ : ∃ w4, w4 = w3.alloc (.cells (arr8 N) 64) := ⟨_, rfl⟩
    have HB4 : Hid (Below w.heap.size w w4) := by unfold Hid; rw [hw4]; exact HB3.out.alloc HB3.out.size _
    have HP4 : Hid (Blk w4 w.heap.size 37 (arrW ⟨0, 0, 0, 0⟩)) := by unfold Hid; rw [hw4]; exact HP3.out.old _
    have HN4 : Hid (Blk w4 w3.heap.size 64 (arr8 N)) := by unfold Hid; rw [hw4]; exact Blk.new _ _ _
    unfold arr8 at hw4 ⊢
    go_upto_region 5 with fail
    rw [← hw4]
    clear hw4
    obtain ⟨r0, r1, r2, r3, r4, r5, r6, r7⟩ := HN4.out.cells8
    go_wp2_with fail
    go_at_call 61
    refine (HW.out _).mono ?_
    rintro e w5 ⟨rfl, hb⟩
    have HB5 : Hid (Below w.heap.size w w5) := HB4.out.trans (hb.mono HB4.out.size)
    have HP5 : Hid (Blk w5 w.heap.size 37 (arrW ⟨0, 0, 0, 0⟩)) := HP4.out.below hb
    clear hb r0 r1 r2 r3 r4 r5 r6 r7
    have p0 : w5.cell? ⟨w.heap.size, 0, none⟩ = some (.int .i64 0) := HP5.out.cell 0
    have p1 : w5.cell? ⟨w.heap.size, 1, none⟩ = some (.int .i64 0) := HP5.out.cell 1
    have p2 : w5.cell? ⟨w.heap.size, 2, none⟩ = some (.int .i64 0) := HP5.out.cell 2
    have p3 : w5.cell? ⟨w.heap.size, 3, none⟩ = some (.int .i64 0) := HP5.out.cell 3
    obtain ⟨q0, q1, q2, q3⟩ := HP5.out.frozen4
    go_wp2
    have hld := loadW (putW_blk HP5.out D)
    refine bodyPost_ret (v := .tuple #[.agg (arrW D), .nilIface]) ?_ rfl ⟨Or.inl ⟨N, rfl, by rw [HDe.out]⟩, ?_⟩
    · rw [results_cell_tmp rfl]
      unfold putW at hld
      simp [asAddr, Result.andThen, hld]
    · exact putW_below HB5.out (Nat.le_refl _) D
end Go.Proofs.YtgkgbpbohgklhafGreatDoor
