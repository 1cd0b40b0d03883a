/-
  Proved: what vennref2.Core returns, of right formulas; what was in memory is as it was (a contract that the statements of chapter 13 lean on).
  Proved: vennsame.Ints of two lists that read as the same numbers returns true; what was in memory is as it was (a contract that the statements lean on).
  Proved: what core.Check returns; what was in memory is as it was (a contract that the statements lean on).
-/
import Derived.Test.YtjaedfjfcghgcaaDoorLibA14
import Derived.OwnWalk
import Derived.Laws.OwnMore
import Derived.Test.YtjaedfjfcghgcaaDoorLibA5
import Derived.Test.YtjaedfjfcghgcaaDoorLibA6
import Derived.Test.YtjaedfjfcghgcaaDoorLibA10
namespace Go.Proofs.YtjaedfjfcghgcaaDoor
open Go.ChangeShapes Go.WideShapes Go.ChangeAt Go.RowKit
set_option maxRecDepth 100000

def goneC (g : Nat → Bool) (n : Nat) : List Value := (List.range n).map fun k => .bool (g k)
theorem goneC_length (g : Nat → Bool) (n : Nat) : (goneC g n).length = n := by simp [goneC]
theorem goneC_set (g : Nat → Bool) (n i : Nat) (b : Bool) : (goneC g n).set i (.bool b) = goneC (putG g i b) n := by
  apply List.ext_getElem
  · simp [goneC]
  · intro j h1 h2
    simp only [goneC, List.getElem_set, List.getElem_map, List.getElem_range, putG]
    by_cases h : i = j
    · subst h; simp
    · rw [if_neg h, if_neg (fun e => h e.symm)]
theorem goneC_none (n : Nat) : goneC (fun _ => false) n = List.replicate n (.bool false) := by
  apply List.ext_getElem
  · simp [goneC]
  · intro j h1 h2; simp [goneC]
/-- the cells of those that are left, of the first k. -/
def leftC (VA VC : Nat → Value) (g : Nat → Bool) : Nat → List Value
  | 0 => []
  | k + 1 => leftC VA VC g k ++ (if g k = true then [] else [VA k, VC k])
theorem leftC_length {fs : List Fm} {VA VC : Nat → Value} {g : Nat → Bool} : ∀ k, k ≤ fs.length → (leftC VA VC g k).length = (leftTo fs g k).length * 2 ∧ (leftTo fs g k).length ≤ k := by
  intro k
  induction k with
  | zero => intro _; exact ⟨rfl, Nat.le_refl _⟩
  | succ k ih =>
    intro hk
    obtain ⟨h1, h2⟩ := ih (by omega)
    unfold leftC leftTo
    rw [List.length_append, List.length_append, h1, List.getElem?_eq_getElem (show k < fs.length by omega)]
    cases g k
    · exact ⟨by simp; omega, by simp; omega⟩
    · exact ⟨by simp, by simp; omega⟩
theorem leftC_at {fs : List Fm} {VA VC : Nat → Value} {g : Nat → Bool} : ∀ k, k ≤ fs.length → ∀ i f, (leftTo fs g k)[i]? = some f → ∃ j, j < k ∧ fs[j]? = some f ∧ (leftC VA VC g k)[i * 2]? = some (VA j) ∧ (leftC VA VC g k)[i * 2 + 1]? = some (VC j) := by
  intro k
  induction k with
  | zero => intro _ i f h; simp [leftTo] at h
  | succ k ih =>
    intro hk i f h
    obtain ⟨hl, _⟩ := leftC_length (fs := fs) (VA := VA) (VC := VC) (g := g) k (by omega)
    unfold leftTo at h
    unfold leftC
    rw [List.getElem?_eq_getElem (show k < fs.length by omega)] at h
    rcases Nat.lt_or_ge i (leftTo fs g k).length with hi | hi
    · rw [List.getElem?_append_left hi] at h
      obtain ⟨j, h1, h2, h3, h4⟩ := ih (by omega) i f h
      exact ⟨j, by omega, h2, by rw [List.getElem?_append_left (by omega)]; exact h3, by rw [List.getElem?_append_left (by omega)]; exact h4⟩
    · rw [List.getElem?_append_right hi] at h
      cases hg : g k
      · rw [hg] at h
        simp only [Bool.false_eq_true, if_false] at h ⊢
        have hi0 : i - (leftTo fs g k).length = 0 := by
          have := (List.getElem?_eq_some_iff.1 h).1
          simp at this; omega
        rw [hi0] at h
        have hf : fs[k] = f := by simpa using h
        refine ⟨k, by omega, by rw [List.getElem?_eq_getElem (by omega), hf], ?_, ?_⟩
        · rw [List.getElem?_append_right (by omega), hl, show i * 2 - (leftTo fs g k).length * 2 = 0 by omega]; rfl
        · rw [List.getElem?_append_right (by omega), hl, show i * 2 + 1 - (leftTo fs g k).length * 2 = 1 by omega]; rfl
      · rw [hg] at h; simp at h
theorem left_in {fs : List Fm} {g : Nat → Bool} : ∀ k, k ≤ fs.length → ∀ f ∈ leftTo fs g k, f ∈ fs := by
  intro k hk f hf
  obtain ⟨i, hi⟩ := List.mem_iff_getElem?.1 hf
  obtain ⟨j, _, h2, _⟩ := leftC_at (VA := fun _ => .nilIface) (VC := fun _ => .nilIface) k hk i f hi
  exact List.mem_of_getElem? h2

theorem infoFm : (Tryd.prog.info? 42).isSome = true := by kernel_rfl
theorem zeroFm : (Tryd.prog.info? 42).bind (·.zero) = some (.agg #[.slice none 0 0, .slice none 0 0]) := by kernel_rfl
theorem sizeFm : (Tryd.prog.info? 42).map (·.size) = some 2 := by kernel_rfl
theorem bytesFm : (Tryd.prog.info? 42).map (·.bytes) = some 48 := by kernel_rfl
/-- one formula more, out of a block of its own. -/
theorem append_form {w : World} {ops : Array Oper} {rest : List Oper} {o : Oper} {a : Act} {Q : Exit → Act → World → Prop} (hgd : o.guard = none) (s x : Operand)
    (ho : o.op = .call { callee := .builtin .append, args := #[s, x], argTypes := #[22, 22] }) (K : Nat) (v : Value) (hs : a.eval s = v) (n : Nat) (xs : List Value) (va vc : Value) (hva : va.oneCell' = true) (hvc : vc.oneCell' = true) (B c : Nat) (hx : a.eval x = .slice (some ⟨B, 0, none⟩) 1 c)
    (hown : w.ownsRow K 42 2 v n xs) (hB : w.heap[B]? = some (.cells #[va, vc] 42 (0, 0))) (hK : K ≤ w.heap.size) (h12 : n ≤ 20)
    (h : ∀ v' w', w'.ownsRow K 42 2 v' (n + 1) (xs ++ [va, vc]) → w.grownBy w' v.ownBlock → wpList Tryd.prog ops Q rest (a.put o.dst v') w') :
    wpList Tryd.prog ops Q (o :: rest) a w := by
  obtain ⟨i1, hi⟩ : ∃ i, Tryd.prog.info? 42 = some i := Option.isSome_iff_exists.1 infoFm
  have hz0 : i1.zero = some (.agg #[.slice none 0 0, .slice none 0 0]) := by have := zeroFm; rw [hi] at this; simpa using this
  have hz1 : i1.size = 2 := by have := sizeFm; rw [hi] at this; simpa using this
  have hz2 : i1.bytes = 48 := by have := bytesFm; rw [hi] at this; simpa using this
  refine wpList_append_own_at w hgd s x 22 ho K 42 i1 _ 2 48 Tryd.underlying22 hi hz0 hz1 hz2 rfl (by decide) v n xs hs hown ⟨B, 0, none⟩ 1 c [va, vc] hx rfl (World.news_of_block hB) (by intro u hu; simp at hu; rcases hu with rfl | rfl; exact hva; exact hvc) (by unfold maxLen; omega) (by omega) hK ?_
  intro v' w' h1 h2 _ _
  exact h v' w' h1 h2
theorem infoNm : (Tryd.prog.info? 3).isSome = true := by kernel_rfl
theorem zeroNm : (Tryd.prog.info? 3).bind (·.zero) = some (.int .i64 0) := by kernel_rfl
theorem sizeNm : (Tryd.prog.info? 3).map (·.size) = some 1 := by kernel_rfl
theorem bytesNm : (Tryd.prog.info? 3).map (·.bytes) = some 8 := by kernel_rfl
theorem append_num {w : World} {ops : Array Oper} {rest : List Oper} {o : Oper} {a : Act} {Q : Exit → Act → World → Prop} (hgd : o.guard = none) (s x : Operand)
    (ho : o.op = .call { callee := .builtin .append, args := #[s, x], argTypes := #[30, 30] }) (K : Nat) (v : Value) (hs : a.eval s = v) (l : List Int) (r : Int) (B c : Nat) (hx : a.eval x = .slice (some ⟨B, 0, none⟩) 1 c)
    (hown : w.ownsRow K 3 1 v l.length (l.map (Value.int .i64))) (hB : w.heap[B]? = some (.cells #[.int .i64 r] 3 (0, 0))) (hK : K ≤ w.heap.size) (h12 : l.length ≤ 20)
    (h : ∀ v' w', w'.ownsRow K 3 1 v' (l.length + 1) ((l ++ [r]).map (Value.int .i64)) → w.grownBy w' v.ownBlock → wpList Tryd.prog ops Q rest (a.put o.dst v') w') :
    wpList Tryd.prog ops Q (o :: rest) a w := by
  obtain ⟨i1, hi⟩ : ∃ i, Tryd.prog.info? 3 = some i := Option.isSome_iff_exists.1 infoNm
  have hz0 : i1.zero = some (.int .i64 0) := by have := zeroNm; rw [hi] at this; simpa using this
  have hz1 : i1.size = 1 := by have := sizeNm; rw [hi] at this; simpa using this
  have hz2 : i1.bytes = 8 := by have := bytesNm; rw [hi] at this; simpa using this
  refine wpList_append_own_at w hgd s x 30 ho K 3 i1 _ 1 8 Tryd.underlying30 hi hz0 hz1 hz2 rfl (by decide) v l.length (l.map (Value.int .i64)) hs hown ⟨B, 0, none⟩ 1 c [.int .i64 r] hx rfl (World.news_of_block hB) (by simp [Value.oneCell']) (by unfold maxLen; omega) (by omega) hK ?_
  intro v' w' h1 h2 _ _
  refine h v' w' ?_ h2
  rw [List.map_append]
  exact h1
theorem own_readsC {w : World} {K : Nat} {v : Value} {t : List Int} (h : w.ownsRow K 3 1 v t.length (t.map (Value.int .i64))) (hm : t.length ≤ 9223372036854775807) : Reads w v t := by
  rcases h.2 with ⟨rfl, h0⟩ | ⟨g, cap, cur, rfl, hb, hg, hc, _⟩
  · exact Or.inl ⟨none, 0, rfl, List.eq_nil_of_length_eq_zero h0⟩
  · rcases Nat.eq_zero_or_pos t.length with h0 | h0
    · have e : t = [] := List.eq_nil_of_length_eq_zero h0
      subst e
      exact Or.inl ⟨_, _, rfl, rfl⟩
    · refine Or.inr ⟨g, 0, cap, rfl, (Array.getElem?_eq_some_iff.1 hg).1, h0, ⟨hm, hc⟩, fun k hk => ?_⟩
      rw [Nat.zero_add, h.cellAt _ (by omega), List.getElem?_map, List.getElem?_eq_getElem hk, List.getD_eq_getElem?_getD, List.getElem?_eq_getElem hk]
      rfl
theorem coreTo_length (fs : List Fm) (u : Nat) : ∀ k, (coreTo fs u k).length ≤ k := by
  intro k
  induction k with
  | zero => exact Nat.le_refl _
  | succ k ih =>
    unfold coreTo
    split
    · simp; omega
    · omega

theorem infoO2 : (Tryd.prog.info? 4).isSome = true := by kernel_rfl
theorem zeroO2 : (Tryd.prog.info? 4).bind (·.zero) = some (.bool false) := by kernel_rfl
theorem sizeO2 : (Tryd.prog.info? 4).map (·.size) = some 1 := by kernel_rfl
theorem bytesO2 : (Tryd.prog.info? 4).map (·.bytes) = some 1 := by kernel_rfl

set_option maxHeartbeats 16000000 in
theorem refCore_any (v : Value) (fs : List Fm) (hgood : ∀ f ∈ fs, f.fault = 0) (h0 : 1 ≤ fs.length) (h6 : fs.length ≤ 6) (u : Nat) (hu : u ≤ 6) (w : World) (hF : ReadsF w v fs) :
    Calls Tryd.prog 13 #[v, .int .i64 u] w fun e w' => (∃ x, e = .returned x ∧ Reads w' x (coreTo fs u fs.length)) ∧ Below w.heap.size w w' := by
  obtain ⟨i0, hi⟩ : ∃ i, Tryd.prog.info? 4 = some i := Option.isSome_iff_exists.1 infoO2
  have hz0 : i0.zero = some (.bool false) := by have := zeroO2; rw [hi] at this; simpa using this
  have hz1 : i0.size = 1 := by have := sizeO2; rw [hi] at this; simpa using this
  have hz2 : i0.bytes = 1 := by have := bytesO2; rw [hi] at this; simpa using this
  obtain ⟨bL, oL, lcap, rfl⟩ := hF.place (by omega)
  have hAt : ∀ k, k < fs.length → ∃ va vc f, fs[k]? = some f ∧ va.oneCell' = true ∧ vc.oneCell' = true ∧ w.cell? ⟨bL, oL + k * 2, none⟩ = some va ∧ w.cell? ⟨bL, oL + k * 2 + 1, none⟩ = some vc ∧ ReadsA w va f.ats ∧ Reads w vc f.c := fun k hk => by
    have hf := List.getElem?_eq_getElem hk
    obtain ⟨_, va, vc, c0, c1, hA, hC⟩ := hF.at hf
    obtain ⟨ao, acap, rfl, _⟩ := hA.slice
    obtain ⟨co, ccap, rfl, _⟩ := hC.slice
    exact ⟨_, _, _, hf, rfl, rfl, c0, c1, hA, hC⟩
  obtain ⟨VA, VC, hV⟩ : ∃ VA VC : Nat → Value, ∀ k, k < fs.length → ∃ f, fs[k]? = some f ∧ (VA k).oneCell' = true ∧ (VC k).oneCell' = true ∧ w.cell? ⟨bL, oL + k * 2, none⟩ = some (VA k) ∧ w.cell? ⟨bL, oL + k * 2 + 1, none⟩ = some (VC k) ∧ ReadsA w (VA k) f.ats ∧ Reads w (VC k) f.c := by
    refine ⟨fun k => (w.cell? ⟨bL, oL + k * 2, none⟩).getD .nilIface, fun k => (w.cell? ⟨bL, oL + k * 2 + 1, none⟩).getD .nilIface, fun k hk => ?_⟩
    obtain ⟨va, vc, f, hf, h1, h2, c0, c1, hA, hC⟩ := hAt k hk
    refine ⟨f, hf, ?_⟩
    simp only [c0, c1, Option.getD_some]
    exact ⟨h1, h2, trivial, trivial, hA, hC⟩
  have HV : Hid (∀ k, k < fs.length → ∃ f, fs[k]? = some f ∧ (VA k).oneCell' = true ∧ (VC k).oneCell' = true ∧ w.cell? ⟨bL, oL + k * 2, none⟩ = some (VA k) ∧ w.cell? ⟨bL, oL + k * 2 + 1, none⟩ = some (VC k) ∧ ReadsA w (VA k) f.ats ∧ Reads w (VC k) f.c) := hV
  have HbL : Hid (bL < w.heap.size) := (hF.at (List.getElem?_eq_getElem (show 0 < fs.length by omega))).1
  -- those that are left, read in a world
  have HLeft : Hid (∀ (g : Nat → Bool) (K : Nat) W x, Below w.heap.size w W → W.ownsRow K 42 2 x (leftF fs g).length (leftC VA VC g fs.length) → Calls Tryd.prog 10 #[x, .int .i64 u] W fun e w' => e = .returned (.bool (openN (leftF fs g) u)) ∧ Below W.heap.size W w') := fun g K W x hW hown => by
    refine refOpen_any x (leftF fs g) (fun f hf => hgood f (left_in _ (Nat.le_refl _) f hf)) u hu W ?_
    rcases hown.2 with ⟨rfl, hn0⟩ | ⟨gb, cap, cur, rfl, hb, hgb, hc, hmx, hs, ht⟩
    · exact Or.inl ⟨none, 0, rfl, List.eq_nil_of_length_eq_zero hn0⟩
    · rcases Nat.eq_zero_or_pos (leftF fs g).length with hz | hz
      · rw [hz]; exact Or.inl ⟨_, _, rfl, List.eq_nil_of_length_eq_zero hz⟩
      · have hle := (leftC_length (fs := fs) (VA := VA) (VC := VC) (g := g) fs.length (Nat.le_refl _)).2
        have hle' : (leftF fs g).length ≤ fs.length := hle
        refine Or.inr ⟨gb, 0, cap, rfl, (Array.getElem?_eq_some_iff.1 hgb).1, hz, ⟨by omega, hc⟩, fun i f hf => ?_⟩
        have hil : i < (leftF fs g).length := (List.getElem?_eq_some_iff.1 hf).1
        obtain ⟨j, hj, hfj, ca, cc⟩ := leftC_at (VA := VA) (VC := VC) fs.length (Nat.le_refl _) i f hf
        obtain ⟨f', hf', _, _, _, _, hA, hC⟩ := HV.out j hj
        obtain rfl : f' = f := Option.some.inj (hf'.symm.trans hfj)
        refine ⟨VA j, VC j, ?_, ?_, hA.below hW, hC.below hW⟩
        · rw [cell_of_row W gb _ cur _ (0, 0) hgb, ← Array.getElem?_toList, show 0 + i * 2 = i * 2 by omega]
          rw [← ht, List.getElem?_take_of_lt (by omega)] at ca
          exact ca
        · rw [cell_of_row W gb _ cur _ (0, 0) hgb, ← Array.getElem?_toList, show 0 + i * 2 + 1 = i * 2 + 1 by omega]
          rw [← ht, List.getElem?_take_of_lt (by omega)] at cc
          exact cc
  have HGo : Hid (∀ i, goneTo fs u (i + 1) = if openN (leftF fs (putG (goneTo fs u i) i true)) u = true then putG (goneTo fs u i) i false else putG (goneTo fs u i) i true) := fun i => rfl
  have HCo : Hid (∀ i, coreTo fs u (i + 1) = if openN (leftF fs (putG (goneTo fs u i) i true)) u = true then coreTo fs u i ++ [(i : Int)] else coreTo fs u i) := fun i => rfl
  have HLf : Hid (∀ g, leftF fs g = leftTo fs g fs.length) := fun _ => rfl
  obtain ⟨n, hn⟩ : ∃ n, n = fs.length := ⟨_, rfl⟩
  rw [← hn] at HV HLeft HLf h0 h6 ⊢
  have HN : Hid (n = fs.length) := hn
  obtain ⟨G, hG⟩ : ∃ G, G = w.heap.size := ⟨_, rfl⟩
  clear hAt hV hF hgood hn
  go_enter Tryd.func13, Tryd.ntmps13
  go_wp2_with (first | (at_make; refine wpList_make_full _ rfl _ _ 66 rfl G 4 i0 (.bool false) 1 Tryd.underlying66 hi hz0 hz1 .i64 .i64 _ _ n rfl rfl ?m0 ?m1 ?m2 ?m3 ?m4 ?_))
  case m0 => rfl
  case m1 => rfl
  case m2 => rw [hz2]; omega
  case m3 => unfold maxLen; omega
  case m4 => rw [hG]; exact Nat.le_refl _
  intro w3 hown1 hgrow1
  have HO3 : Hid (w3.ownsRow G 4 1 (.slice (some ⟨G, 0, none⟩) n n) n (goneC (fun _ => false) n)) := by
    unfold Hid
    rw [goneC_none, ← toList_madeCells_one, hG]
    simpa [Value.cells] using hown1
  have HB3 : Hid (Below w.heap.size w w3) := by
    unfold Hid
    exact (Below.refl _ _).grown hgrow1 (Nat.le_refl _) (fun k hk => by cases hk)
  have HG3 : Hid (w.heap.size ≤ G ∧ G < w3.heap.size) := ⟨by rw [hG]; exact Nat.le_refl _, (ownsRow_block HO3.out).2.1⟩
  rw [← hG]
  clear hown1 hgrow1 hG
  go_wp2_with fail
  go_loopw [6, 7, 8, 9, 10] (fun r i _ _ _ wr => ∃ k : Nat, k ≤ n ∧ i = .int .i64 k ∧ wr.ownsRow G 4 1 (.slice (some ⟨G, 0, none⟩) n n) n (goneC (goneTo fs u k) n) ∧ wr.ownsRow w3.heap.size 3 1 r (coreTo fs u k).length ((coreTo fs u k).map (Value.int .i64)) ∧ Below G w3 wr) (fun _ i _ _ _ _ => n - (intOf i).toNat)
  case atStart => exact ⟨0, Nat.zero_le _, rfl, HO3.out, World.ownsRow_nil _ _ _ _, Below.refl _ _⟩
  case round =>
    obtain ⟨k, hk, rfl, hown, hout, hbr⟩ := hrel
    have HBr : Hid (Below G w3 wr) := hbr
    have HGo' : Hid (wr.ownsRow G 4 1 (.slice (some ⟨G, 0, none⟩) n n) n (goneC (goneTo fs u k) n)) := hown
    have HOut : Hid (wr.ownsRow w3.heap.size 3 1 u6 (coreTo fs u k).length ((coreTo fs u k).map (Value.int .i64))) := hout
    clear hbr hown hout
    by_cases hlt : k < n
    · have hkn : (k : Int) < (n : Int) := by omega
      have hcg : wr.cell? ⟨G, k, none⟩ = some (.bool (goneTo fs u k k)) := by
        rw [HGo'.out.cellAt k (by omega)]; simp [goneC, hlt]
      have hfr : wr.frozen? ⟨G, k, none⟩ = false := HGo'.out.frozenAt k
      obtain ⟨w4, hw4⟩ : ∃ w4, w4 = wr.setCell ⟨G, k, none⟩ (.bool true) := ⟨_, rfl⟩
      obtain ⟨g, hg⟩ : ∃ g, g = putG (goneTo fs u k) k true := ⟨_, rfl⟩
      have HG4 : Hid (w4.ownsRow G 4 1 (.slice (some ⟨G, 0, none⟩) n n) n (goneC g n)) := by
        unfold Hid
        have := (HGo'.out.stored k (.bool true)).1
        rw [goneC_set, ← hw4, ← hg] at this
        exact this
      have HO4 : Hid (w4.ownsRow w3.heap.size 3 1 u6 (coreTo fs u k).length ((coreTo fs u k).map (Value.int .i64))) := by
        unfold Hid
        rw [hw4]
        have hGl := HG3.out.2
        obtain ⟨e1, e2⟩ := HOut.out
        refine ⟨e1, ?_⟩
        rcases e2 with e2 | ⟨gb, cap, cur, hv, hb, hh, r⟩
        · exact .inl e2
        · refine .inr ⟨gb, cap, cur, hv, hb, ?_, r⟩
          rw [Below.heap_setCell _ _ _ _ (show gb ≠ G by omega)]; exact hh
      have HB4 : Hid (Below G w3 w4) := by unfold Hid; rw [hw4]; exact HBr.out.setCell (Nat.le_refl _) _
      have HBw4 : Hid (Below w.heap.size w w4) := HB3.out.trans (HB4.out.mono HG3.out.1)
      have HGg : Hid (g = putG (goneTo fs u k) k true) := hg
      clear hg
      go_upto_region 7 with fail
      rw [← hw4]
      clear hw4 hcg hfr
      go_wp2
      go_loopw [8, 9] (fun r i wx => ∃ j : Nat, j ≤ n ∧ i = .int .i64 j ∧ wx.ownsRow w4.heap.size 42 2 r (leftTo fs g j).length (leftC VA VC g j) ∧ Below w4.heap.size w4 wx) (fun _ i _ => n - (intOf i).toNat)
      case atStart => exact ⟨0, Nat.zero_le _, rfl, World.ownsRow_nil _ _ _ _, Below.refl _ _⟩
      case round =>
        obtain ⟨j, hj, rfl, hown, hbx⟩ := hrel
        have HBx : Hid (Below w4.heap.size w4 wr) := hbx
        have HLo : Hid (wr.ownsRow w4.heap.size 42 2 u8 (leftTo fs g j).length (leftC VA VC g j)) := hown
        have HBwx : Hid (Below w.heap.size w wr) := HBw4.out.trans (hbx.mono HBw4.out.size)
        clear hbx hown
        by_cases hltj : j < n
        · have hjn : (j : Int) < (n : Int) := by omega
          obtain ⟨f, hf, o1, o2, c0, c1, hA, hC⟩ := HV.out j hltj
          have z : wr.cell? ⟨G, j, none⟩ = some (.bool (g j)) := by
            have h := (ownsRow_below HG4.out HBx.out).cellAt j (show j < n * 1 by omega)
            rw [h]; simp [goneC, hltj]
          have x0 : wr.cell? ⟨bL, oL + j * 2, none⟩ = some (VA j) := (HBwx.out.cell HbL.out).trans c0
          have x1 : wr.cell? ⟨bL, oL + j * 2 + 1, none⟩ = some (VC j) := (HBwx.out.cell HbL.out).trans c1
          have HF2 : Hid (leftTo fs g (j + 1) = leftTo fs g j ++ (if g j = true then [] else [f])) := by
            unfold Hid
            show leftTo fs g j ++ (if g j = true then [] else (match fs[j]? with | some f => [f] | none => [])) = _
            rw [hf]
          have HC2 : Hid (leftC VA VC g (j + 1) = leftC VA VC g j ++ (if g j = true then [] else [VA j, VC j])) := rfl
          have HOc : Hid ((VA j).oneCell' = true ∧ (VC j).oneCell' = true) := ⟨o1, o2⟩
          have hle : (leftTo fs g j).length ≤ 20 := by have := (leftC_length (fs := fs) (VA := VA) (VC := VC) (g := g) j (by rw [← HN.out]; omega)).2; omega
          obtain ⟨q, hq⟩ : ∃ q, q = g j := ⟨_, rfl⟩
          rw [← hq] at z HF2 HC2
          obtain ⟨va, hva⟩ : ∃ va, va = VA j := ⟨_, rfl⟩
          obtain ⟨vc, hvc⟩ : ∃ vc, vc = VC j := ⟨_, rfl⟩
          rw [← hva] at x0 HC2 HOc
          rw [← hvc] at x1 HC2 HOc
          clear hf o1 o2 c0 c1 hA hC hq hva hvc
          cases q with
          | true =>
            have HF3 : Hid (leftTo fs g (j + 1) = leftTo fs g j) := by unfold Hid; rw [HF2.out]; simp
            have HC3 : Hid (leftC VA VC g (j + 1) = leftC VA VC g j) := by unfold Hid; rw [HC2.out]; simp
            clear HF2 HC2
            go_wp2
            go_roundw
            case rel => exact ⟨j + 1, by omega, by go_num, by rw [HF3.out, HC3.out]; exact HLo.out, HBx.out⟩
            case measure => simp [intOf]; omega
          | false =>
            have HF3 : Hid ((leftTo fs g (j + 1)).length = (leftTo fs g j).length + 1) := by unfold Hid; rw [HF2.out]; simp
            have HC3 : Hid (leftC VA VC g (j + 1) = leftC VA VC g j ++ [va, vc]) := by unfold Hid; rw [HC2.out]; simp
            clear HF2 HC2
            have HS : Hid (w4.heap.size ≤ wr.heap.size) := HBx.out.size
            go_wp2_with (at_builtin; refine append_form rfl _ _ rfl w4.heap.size u8 rfl (leftTo fs g j).length (leftC VA VC g j) va vc HOc.out.1 HOc.out.2 wr.heap.size 1 rfl (HLo.out.alloc _) (heap_alloc_new wr _) (by have := HS.out; simp; omega) hle ?_)
            intro v9 w9 hown hgrow
            have HBa : Hid (Below w4.heap.size w4 (wr.alloc (.cells #[va, vc] 42))) := HBx.out.alloc HBx.out.size _
            have HB9 : Hid (Below w4.heap.size w4 w9) := HBa.out.grown hgrow HBa.out.size (fun x hx => (HLo.out.lt x hx).1)
            have HO9 : Hid (w9.ownsRow w4.heap.size 42 2 v9 (leftTo fs g (j + 1)).length (leftC VA VC g (j + 1))) := by unfold Hid; rw [HF3.out, HC3.out]; exact hown
            clear hown hgrow x0 x1 z
            go_wp2
            go_roundw
            case rel => exact ⟨j + 1, by omega, by go_num, HO9.out, HB9.out⟩
            case measure => simp [intOf]; omega
        · obtain rfl : j = n := by omega
          have HOpn : Hid (Calls Tryd.prog 10 #[u8, .int .i64 u] wr fun e w' => e = .returned (.bool (openN (leftF fs g) u)) ∧ Below wr.heap.size wr w') := HLeft.out g w4.heap.size wr u8 HBwx.out (by rw [HLf.out]; exact HLo.out)
          obtain ⟨q, hq⟩ : ∃ q, q = openN (leftF fs g) u := ⟨_, rfl⟩
          have HQ : Hid (q = openN (leftF fs g) u) := hq
          rw [← hq] at HOpn
          clear hq
          go_wp2_with fail
          go_at_call 10
          refine HOpn.out.mono ?_
          rintro e w7 ⟨rfl, hb⟩
          have HB7 : Hid (Below w4.heap.size w4 w7) := HBx.out.trans (hb.mono HBx.out.size)
          have HB37 : Hid (Below G w3 w7) := HB4.out.trans (HB7.out.mono (by have := (ownsRow_block HG4.out).2.1; omega))
          have HG7 : Hid (w7.ownsRow G 4 1 (.slice (some ⟨G, 0, none⟩) j j) j (goneC g j)) := ownsRow_below HG4.out HB7.out
          have HO7 : Hid (w7.ownsRow w3.heap.size 3 1 u6 (coreTo fs u k).length ((coreTo fs u k).map (Value.int .i64))) := ownsRow_below HO4.out HB7.out
          clear hb
          cases q with
          | true =>
            have HQ' : Hid (openN (leftF fs (putG (goneTo fs u k) k true)) u = true) := by unfold Hid; rw [← HGg.out]; exact HQ.out.symm
            have HG1 : Hid (goneTo fs u (k + 1) = putG (goneTo fs u k) k false) := by unfold Hid; rw [HGo.out k, if_pos HQ'.out]
            have HC1 : Hid (coreTo fs u (k + 1) = coreTo fs u k ++ [(k : Int)]) := by unfold Hid; rw [HCo.out k, if_pos HQ'.out]
            have HPut : Hid (putG g k false = putG (goneTo fs u k) k false) := by
              unfold Hid; rw [HGg.out]; funext x; unfold putG; by_cases hx : x = k <;> simp [hx]
            have hcg : w7.cell? ⟨G, k, none⟩ = some (.bool (g k)) := by rw [HG7.out.cellAt k (by omega)]; simp [goneC, hlt]
            have hfr : w7.frozen? ⟨G, k, none⟩ = false := HG7.out.frozenAt k
            obtain ⟨w8, hw8⟩ : ∃ w8, w8 = w7.setCell ⟨G, k, none⟩ (.bool false) := ⟨_, rfl⟩
            have HG8 : Hid (w8.ownsRow G 4 1 (.slice (some ⟨G, 0, none⟩) j j) j (goneC (goneTo fs u (k + 1)) j)) := by
              unfold Hid
              have := (HG7.out.stored k (.bool false)).1
              rw [goneC_set, ← hw8, HPut.out, ← HG1.out] at this
              exact this
            have HO8 : Hid (w8.ownsRow w3.heap.size 3 1 u6 (coreTo fs u k).length ((coreTo fs u k).map (Value.int .i64))) := by
              unfold Hid
              rw [hw8]
              have hGl := HG3.out.2
              obtain ⟨e1, e2⟩ := HO7.out
              refine ⟨e1, ?_⟩
              rcases e2 with e2 | ⟨gb, cap, cur, hv, hb, hh, r⟩
              · exact .inl e2
              · refine .inr ⟨gb, cap, cur, hv, hb, ?_, r⟩
                rw [Below.heap_setCell _ _ _ _ (show gb ≠ G by omega)]; exact hh
            have HB8 : Hid (Below G w3 w8) := by unfold Hid; rw [hw8]; exact HB37.out.setCell (Nat.le_refl _) _
            have HS8 : Hid (w3.heap.size ≤ w8.heap.size) := HB8.out.size
            have hl20 : (coreTo fs u k).length ≤ 20 := by have := coreTo_length fs u k; omega
            clear HQ
            go_upto_region 16 with fail
            rw [← hw8]
            clear hw8 hcg hfr
            go_wp2_with (at_builtin; refine append_num rfl _ _ rfl w3.heap.size u6 rfl (coreTo fs u k) (k : Int) w8.heap.size 1 rfl (HO8.out.alloc _) (heap_alloc_new w8 _) (by have := HS8.out; simp; omega) hl20 ?_)
            intro v9 w9 hown hgrow
            have HBa : Hid (Below G w3 (w8.alloc (.cells #[.int .i64 (k : Int)] 3))) := HB8.out.alloc (by have := HG3.out.2; have := HS8.out; omega) _
            have HB9 : Hid (Below G w3 w9) := HBa.out.grown hgrow (by have := HBa.out.size; have := HG3.out.2; omega) (fun x hx => by have := (HO8.out.lt x hx).1; have := HG3.out.2; omega)
            have HO9 : Hid (w9.ownsRow w3.heap.size 3 1 v9 (coreTo fs u (k + 1)).length ((coreTo fs u (k + 1)).map (Value.int .i64))) := by
              unfold Hid; rw [HC1.out, List.length_append, List.map_append]; exact hown
            have HG9 : Hid (w9.ownsRow G 4 1 (.slice (some ⟨G, 0, none⟩) j j) j (goneC (goneTo fs u (k + 1)) j)) := by
              have hal := HG8.out.alloc (.cells #[.int .i64 (k : Int)] 3)
              unfold Hid
              obtain ⟨e1, e2⟩ := hal
              refine ⟨e1, ?_⟩
              rcases e2 with ⟨e2, _⟩ | ⟨gb, cap, cur, hv, hb, hh, r⟩
              · cases e2
              · refine .inr ⟨gb, cap, cur, hv, hb, ?_, r⟩
                have hgb : gb = G := by cases hv; rfl
                subst hgb
                rw [hgrow.block gb (Array.getElem?_eq_some_iff.1 hh).1 (fun e => by have := (HO8.out.lt gb e.symm).1; have := HG3.out.2; omega)]
                exact hh
            clear hown hgrow
            go_wp2
            go_roundw
            case rel => exact ⟨k + 1, by omega, by go_num, HG9.out, HO9.out, HB9.out⟩
            case measure => simp [intOf]; omega
          | false =>
            have HQ' : Hid (¬ openN (leftF fs (putG (goneTo fs u k) k true)) u = true) := by unfold Hid; rw [← HGg.out, ← HQ.out]; decide
            have HG1 : Hid (goneTo fs u (k + 1) = g) := by unfold Hid; rw [HGo.out k, if_neg HQ'.out, HGg.out]
            have HC1 : Hid (coreTo fs u (k + 1) = coreTo fs u k) := by unfold Hid; rw [HCo.out k, if_neg HQ'.out]
            clear HQ
            go_wp2
            go_roundw
            case rel => exact ⟨k + 1, by omega, by go_num, by rw [HG1.out]; exact HG7.out, by rw [HC1.out]; exact HO7.out, HB37.out⟩
            case measure => simp [intOf]; omega
    · obtain rfl : k = n := by omega
      have HRd : Hid (Reads wr u6 (coreTo fs u k)) := own_readsC HOut.out (by have := coreTo_length fs u k; omega)
      have HBw : Hid (Below w.heap.size w wr) := HB3.out.trans (HBr.out.mono HG3.out.1)
      go_wp2
      go_ret
      exact ⟨⟨_, rfl, HRd.out⟩, HBw.out⟩
end Go.Proofs.YtjaedfjfcghgcaaDoor

namespace Go.Proofs.YtjaedfjfcghgcaaDoor
open Go.ChangeShapes Go.WideShapes Go.ChangeAt Go.RowKit

set_option maxRecDepth 100000 in
set_option maxHeartbeats 1000000 in
theorem ints_same (t : List Int) (v v' : Value) (w : World) (h : Reads w v t) (h' : Reads w v' t) :
    Calls Tryd.prog 15 #[v, v'] w fun e w' => e = .returned (.bool true) ∧ Below w.heap.size w w' := by
  rcases h with ⟨ao, cap, rfl, rfl⟩ | ⟨b, off, cap, rfl, hB, h0, ⟨hl, _⟩, hc⟩
  · rcases h' with ⟨ao', cap', rfl, _⟩ | ⟨_, _, _, _, _, h0, _⟩
    · go_enter Tryd.func15, Tryd.ntmps15
      go_wp2
      refine wp_loop_rounds 1 ?_
      rw [rounds_succ]
      go_wp2
      go_ret
      exact ⟨rfl, Below.refl _ _⟩
    · simp at h0
  · rcases h' with ⟨_, _, _, rfl⟩ | ⟨b', off', cap', rfl, hB', _, _, hc'⟩
    · simp at h0
    · have HC : Hid (∀ k, k < t.length → w.cell? ⟨b, off + k, none⟩ = some (.int .i64 (t.getD k 0))) := hc
      have HC' : Hid (∀ k, k < t.length → w.cell? ⟨b', off' + k, none⟩ = some (.int .i64 (t.getD k 0))) := hc'
      have HB : Hid (b < w.heap.size ∧ b' < w.heap.size) := ⟨hB, hB'⟩
      clear hc hc' hB hB'
      obtain ⟨n, hn⟩ : ∃ n, n = t.length := ⟨_, rfl⟩
      rw [← hn] at hl h0 ⊢
      have HN : Hid (n = t.length) := hn
      clear hn
      go_enter Tryd.func15, Tryd.ntmps15
      go_wp2
      go_loopw [5] (fun i wr => ∃ k : Nat, k ≤ n ∧ i = .int .i64 k ∧ Below w.heap.size w wr) (fun i _ => n - (intOf i).toNat)
      case atStart => exact ⟨0, Nat.zero_le _, rfl, Below.refl _ _⟩
      case round =>
        obtain ⟨k, hk, rfl, hbel⟩ := hrel
        by_cases hlt : k < n
        · obtain ⟨s, hs⟩ : ∃ s, s = t.getD k 0 := ⟨_, rfl⟩
          have hkt : k < t.length := by rw [← HN.out]; exact hlt
          have c0 : wr.cell? ⟨b, off + k, none⟩ = some (.int .i64 s) := by rw [hs, hbel.cell HB.out.1]; exact HC.out k hkt
          have c1 : wr.cell? ⟨b', off' + k, none⟩ = some (.int .i64 s) := by rw [hs, hbel.cell HB.out.2]; exact HC'.out k hkt
          have HW : Hid (Below w.heap.size w wr) := hbel
          have hlt' : (k : Int) < (n : Int) := by omega
          clear hs hkt hbel
          go_wp2_with fail
          go_quiet (fail)
          go_wp2
          go_roundw
          case rel => exact ⟨k + 1, by omega, by go_num, HW.out.trans ((below_drewNs _ _).mono HW.out.size)⟩
          case measure => simp [intOf]; omega
        · obtain rfl : k = n := by omega
          have HW : Hid (Below w.heap.size w wr) := hbel
          clear hbel
          go_wp2
          go_ret
          exact ⟨rfl, HW.out⟩
end Go.Proofs.YtjaedfjfcghgcaaDoor

namespace Go.Proofs.YtjaedfjfcghgcaaDoor
open Go.ChangeShapes Go.WideShapes Go.ChangeAt Go.RowKit
set_option maxRecDepth 100000

set_option maxHeartbeats 8000000 in
theorem coreCheck_any (v : Value) (fs : List Fm) (u : Int) (w : World) (hF : ReadsF w v fs) (hK : KindsLaid w) :
    Calls Tryd.prog 49 #[v, .int .i64 u] w fun e w' => e = .returned (errV (formsFault fs u)) ∧ Below w.heap.size w w' := by
  obtain ⟨lo, lcap, rfl, hl63⟩ := hF.slice
  have HF : Hid (ReadsF w (.slice lo fs.length lcap) fs) := hF
  have HFm : Hid (∀ f va vc W, Below w.heap.size w W → ReadsA W va f.ats → Reads W vc f.c → Calls Tryd.prog 33 #[.agg #[va, vc]] W fun e w' => e = .returned (errV (Fm.fault f)) ∧ Below W.heap.size W w') := fun f va vc W hW hA hC => fcheck_any va vc f.ats f.c W hA hC (hK.below hW)
  obtain ⟨R, hR⟩ : ∃ R, R = formsFault fs u := ⟨_, rfl⟩
  have H0 : Hid (fs.length = 0 → R = 5) := fun h => by rw [hR]; unfold formsFault; rw [if_pos h]
  have H6 : Hid (¬ fs.length = 0 → 6 < fs.length → R = 4) := fun h1 h2 => by rw [hR]; unfold formsFault; rw [if_neg h1, if_pos h2]
  have HBad : Hid (¬ fs.length = 0 → ¬ 6 < fs.length → ∀ (k : Nat) f, fs[k]? = some f → (∀ j, j < k → ∀ g, fs[j]? = some g → Fm.fault g = 0) → ¬ Fm.fault f = 0 → R = Fm.fault f) := fun h1 h2 k f hk hj hf => by
    have e := firstForm_at hk hj hf
    rw [hR]; unfold formsFault; rw [if_neg h1, if_neg h2, if_neg (by rw [e]; exact hf), e]
  have HEnd : Hid (¬ fs.length = 0 → ¬ 6 < fs.length → (∀ j, j < fs.length → ∀ g, fs[j]? = some g → Fm.fault g = 0) → R = if 0 ≤ u ∧ u ≤ 6 then 0 else 1) := fun h1 h2 hj => by
    have e : firstForm fs = 0 := firstForm_zero.2 fun f hf => by
      obtain ⟨i, hi⟩ := List.mem_iff_getElem?.1 hf
      exact hj i (List.getElem?_eq_some_iff.1 hi).1 f hi
    rw [hR]; unfold formsFault; rw [if_neg h1, if_neg h2, if_pos e]
  rw [← hR]
  obtain ⟨n, hn⟩ : ∃ n, n = fs.length := ⟨_, rfl⟩
  rw [← hn] at HF hl63 H0 H6 HBad HEnd ⊢
  have HN : Hid (n = fs.length) := hn
  clear hF hR hn hK
  by_cases hz : n = 0
  · have HR : Hid (R = 5) := H0.out hz
    subst hz
    go_enter Tryd.func49, Tryd.ntmps49
    go_wp2
    go_ret
    exact ⟨by first | (rw [HR.out]; done) | (rw [HR.out]; rfl), Below.refl _ _⟩
  · by_cases h6 : 6 < n
    · have HR : Hid (R = 4) := H6.out hz h6
      have dz : ((n : Int) == 0) = false := by simp; omega
      have h6' : (6 : Int) < (n : Int) := by omega
      go_enter Tryd.func49, Tryd.ntmps49
      go_wp2
      go_ret
      exact ⟨by first | (rw [HR.out]; done) | (rw [HR.out]; rfl), Below.refl _ _⟩
    · have dz : ((n : Int) == 0) = false := by simp; omega
      have h6' : (n : Int) ≤ 6 := by omega
      have HBad' : Hid (∀ (k : Nat) f, fs[k]? = some f → (∀ j, j < k → ∀ g, fs[j]? = some g → Fm.fault g = 0) → ¬ Fm.fault f = 0 → R = Fm.fault f) := HBad.out hz h6
      have HEnd' : Hid ((∀ j, j < n → ∀ g, fs[j]? = some g → Fm.fault g = 0) → R = if 0 ≤ u ∧ u ≤ 6 then 0 else 1) := HEnd.out hz h6
      have Hz : Hid (¬ n = 0) := hz
      clear hz h6 H0 H6 HBad HEnd
      go_enter Tryd.func49, Tryd.ntmps49
      go_wp2
      go_loopw [18] (fun i wr => ∃ k : Nat, k ≤ n ∧ i = .int .i64 k ∧ Below w.heap.size w wr ∧ ∀ j, j < k → ∀ g, fs[j]? = some g → Fm.fault g = 0) (fun i _ => n - (intOf i).toNat)
      case atStart => exact ⟨0, Nat.zero_le _, rfl, Below.refl _ _, fun j hj => by omega⟩
      case round =>
        obtain ⟨k, hk, rfl, hbr, hso⟩ := hrel
        have HBr : Hid (Below w.heap.size w wr) := hbr
        have HSo : Hid (∀ j, j < k → ∀ g, fs[j]? = some g → Fm.fault g = 0) := hso
        clear hbr hso
        by_cases hlt : k < n
        · obtain ⟨f, hf⟩ : ∃ f, fs[k]? = some f := ⟨_, List.getElem?_eq_getElem (by rw [← HN.out]; exact hlt)⟩
          have HFk : Hid (fs[k]? = some f) := hf
          obtain ⟨bL, oL, cL, hv⟩ := HF.out.place (by rw [← HN.out]; omega)
          obtain ⟨hlo, hx1, hx2⟩ := Value.slice.inj hv
          clear hx1 hx2
          subst hlo
          obtain ⟨hbL, va, vc, c0, c1, hA, hC⟩ := HF.out.at hf
          have HFc : Hid (∀ W, Below wr.heap.size wr W → Calls Tryd.prog 33 #[.agg #[va, vc]] W fun e w' => e = .returned (errV (Fm.fault f)) ∧ Below w.heap.size w w') := fun W hW => by
            have hb' := HBr.out.trans (hW.mono HBr.out.size)
            exact (HFm.out f va vc W hb' (hA.below hb') (hC.below hb')).mono fun e w' ⟨h1, h2⟩ => ⟨h1, hb'.trans (h2.mono hb'.size)⟩
          have x0 : wr.cell? ⟨bL, oL + k * 2, none⟩ = some va := (HBr.out.cell hbL).trans c0
          have x1 : wr.cell? ⟨bL, oL + k * 2 + 1, none⟩ = some vc := (HBr.out.cell hbL).trans c1
          obtain ⟨ao, acap, rfl, _⟩ := hA.slice
          obtain ⟨co, ccap, rfl, _⟩ := hC.slice
          obtain ⟨al, hal⟩ : ∃ x, x = f.ats.length := ⟨_, rfl⟩
          obtain ⟨cl, hcl⟩ : ∃ x, x = f.c.length := ⟨_, rfl⟩
          rw [← hal] at x0 HFc
          rw [← hcl] at x1 HFc
          obtain ⟨q, hq⟩ : ∃ q, q = Fm.fault f := ⟨_, rfl⟩
          have HQ : Hid (q = Fm.fault f) := hq
          rw [← hq] at HFc
          clear hf hv hbL c0 c1 hA hC hq hal hcl
          have hkn : (k : Int) < (n : Int) := by omega
          by_cases h0 : q = 0
          · have HFz : Hid (∀ W, Below wr.heap.size wr W → Calls Tryd.prog 33 #[.agg #[.slice ao al acap, .slice co cl ccap]] W fun e w' => e = .returned .nilIface ∧ Below w.heap.size w w') := by
              have h := HFc.out
              rw [h0] at h
              exact h
            have HQ0 : Hid (Fm.fault f = 0) := by unfold Hid; rw [← HQ.out, h0]
            clear h0 HFc HQ
            go_wp2_with fail
            go_at_call 33
            refine (HFz.out _ (by first | exact below_alloc1 _ _ | exact ((((Below.refl _ _).alloc (Nat.le_refl _) _).setCell (by simp) _).setCell (by simp) _))).mono ?_
            rintro e w8 ⟨rfl, hb8⟩
            have HB8 : Hid (Below w.heap.size w w8) := hb8
            clear hb8 x0 x1
            go_wp2
            go_roundw
            case rel =>
              refine ⟨k + 1, by omega, by go_num, HB8.out, fun j hj g hg => ?_⟩
              by_cases e : j = k
              · subst e
                obtain rfl : f = g := Option.some.inj (HFk.out.symm.trans hg)
                exact HQ0.out
              · exact HSo.out j (by omega) g hg
            case measure => simp [intOf]; omega
          · have HFz : Hid (∀ W, Below wr.heap.size wr W → Calls Tryd.prog 33 #[.agg #[.slice ao al acap, .slice co cl ccap]] W fun e w' => e = .returned (.iface 64 (.int .i64 q)) ∧ Below w.heap.size w w') := by
              have h := HFc.out
              rw [show errV q = .iface 64 (.int .i64 q) by unfold errV; rw [if_neg h0]] at h
              exact h
            have HR : Hid (errV R = .iface 64 (.int .i64 q)) := by
              unfold Hid
              rw [HBad'.out k f HFk.out HSo.out (by rw [← HQ.out]; exact h0), ← HQ.out]
              unfold errV; rw [if_neg h0]
            clear h0 HFc HQ
            go_wp2_with fail
            go_at_call 33
            refine (HFz.out _ (by first | exact below_alloc1 _ _ | exact ((((Below.refl _ _).alloc (Nat.le_refl _) _).setCell (by simp) _).setCell (by simp) _))).mono ?_
            rintro e w8 ⟨rfl, hb8⟩
            have HB8 : Hid (Below w.heap.size w w8) := hb8
            clear hb8 x0 x1
            go_wp2
            go_ret
            exact ⟨by first | (rw [HR.out]; done) | (rw [HR.out]; rfl), HB8.out⟩
        · obtain rfl : k = n := by omega
          have hE := HEnd'.out HSo.out
          by_cases hu : 0 ≤ u ∧ u ≤ 6
          · rw [if_pos hu] at hE
            have HR : Hid (R = 0) := hE
            have h : okB u 0 = true := ok_zero hu.1 hu.2
            have HC : Hid (∀ W, Calls Tryd.prog 72 #[.int .i64 u, .int .i64 0] W fun e w' => e = .returned .nilIface ∧ W = w') := fun W => check_ok _ _ h W
            clear hE hu h
            go_wp2_with fail
            go_at_call 72
            refine (HC.out _).mono ?_
            rintro e w' ⟨rfl, rfl⟩
            go_wp2
            go_ret
            exact ⟨by first | (rw [HR.out]; done) | (rw [HR.out]; rfl), HBr.out⟩
          · rw [if_neg hu] at hE
            have HR : Hid (R = 1) := hE
            have h : okB u 0 = false := okB_not.2 fun h => hu ⟨h.1, h.2.1⟩
            have HC : Hid (∀ W, Calls Tryd.prog 72 #[.int .i64 u, .int .i64 0] W fun e w' => e = .returned (.iface 64 (.int .i64 1)) ∧ W = w') := fun W => check_no _ _ h W
            clear hE hu h
            go_wp2_with fail
            go_at_call 72
            refine (HC.out _).mono ?_
            rintro e w' ⟨rfl, rfl⟩
            go_wp2
            go_ret
            exact ⟨by first | (rw [HR.out]; done) | (rw [HR.out]; rfl), HBr.out⟩

end Go.Proofs.YtjaedfjfcghgcaaDoor
