/-
  Facts and contracts that the statement leans on.
-/
import Derived.Test.YtjaedfjfcghgcabGreatDoorLibX21
import Derived.Maps.OwnIn
import Derived.Deep.AppendLies
import Derived.Test.YtjaedfjfcghgcabGreatDoorLibX18
import Derived.Test.YtjaedfjfcghgcabGreatDoorLibX19
import Derived.Lib.Strings
import Derived.Lib.Walk
import Derived.Laws.Strings3
namespace Go.Proofs.YtjaedfjfcghgcabGreatDoor
open Go.ChangeShapes Go.WideShapes Go.ChangeAt Go.RowKit
set_option maxRecDepth 100000
def InR (R : Nat → Prop) (v : Value) (t : List Int) : Prop := 0 < t.length → ∀ b off n c, v = .slice (some ⟨b, off, none⟩) n c → R b
theorem InR.mono {R R' : Nat → Prop} {v : Value} {t : List Int} (h : InR R v t) (hR : ∀ b, R b → R' b) : InR R' v t := fun h0 b off n c e => hR b (h h0 b off n c e)
theorem Reads.inR {R : Nat → Prop} {W W' : World} {v : Value} {t : List Int} (h : Reads W v t) (hi : InR R v t) (hs : ∀ b, R b → b < W.heap.size → W'.heap[b]? = W.heap[b]?) (hz : W.heap.size ≤ W'.heap.size) : Reads W' v t := by
 rcases h with h | ⟨b, off, cap, rfl, h2, h3, h4, h5⟩
 ·exact Or.inl h
 ·have e : W'.heap[b]? = W.heap[b]? := hs b (hi h3 b off _ _ rfl) h2
  exact Or.inr ⟨b, off, cap, rfl, Nat.lt_of_lt_of_le h2 hz, h3, h4, fun k hk => by rw [World.cell?_of_block (w := W) (a := ⟨b, off + k, none⟩) e]; exact h5 k hk⟩
def AtS (R : Nat → Prop) (w : World) (xs : List Value) (i : Nat) (a : At) (va : Value) : Prop :=
 ∃ vs vt, (xs[i * 4]? = some (.int .i64 a.k) ∧ xs[i * 4 + 1]? = some vs ∧ xs[i * 4 + 2]? = some vt ∧ xs[i * 4 + 3]? = some (.int .i64 a.n)) ∧ (Reads w vs a.s ∧ InR R vs a.s ∧ Apart vs a.s va) ∧ (Reads w vt a.t ∧ InR R vt a.t ∧ Apart vt a.t va)
def MadeA (R : Nat → Prop) (K : Nat) (W : World) (v : Value) (ats : List At) : Prop :=
 ∃ xs, W.ownsRow K 50 4 v ats.length xs ∧ (∀ b, v.ownBlock = some b → R b) ∧ ∀ i a, ats[i]? = some a → AtS R W xs i a v
theorem made_nil (R : Nat → Prop) (K : Nat) (W : World) : MadeA R K W (.slice none 0 0) [] := ⟨[], World.ownsRow_nil _ _ _ _, (fun b e => by cases e), fun i a h => by simp at h⟩
theorem own_same {X Y : World} {K n size : Nat} {e : TypeId} {v : Value} {xs : List Value} (h : X.ownsRow K e size v n xs) (hs : ∀ b, v.ownBlock = some b → Y.heap[b]? = X.heap[b]?) : Y.ownsRow K e size v n xs := by
 refine ⟨h.1, ?_⟩
 rcases h.2 with h0 | ⟨g, cap, cur, hv, hb, hg, rest⟩
 ·exact Or.inl h0
 ·exact Or.inr ⟨g, cap, cur, hv, hb, (hs g (by rw [hv]; rfl)).trans hg, rest⟩
theorem MadeA.keep {R : Nat → Prop} {K : Nat} {W W' : World} {v : Value} {ats : List At} (h : MadeA R K W v ats) (hs : ∀ b, R b → b < W.heap.size → W'.heap[b]? = W.heap[b]?) (hz : W.heap.size ≤ W'.heap.size) : MadeA R K W' v ats := by
 obtain ⟨xs, h1, h2, h3⟩ := h
 refine ⟨xs, own_same h1 fun b e => hs b (h2 b e) (h1.lt b e).2, h2, fun i a ha => ?_⟩
 obtain ⟨vs, vt, c, ⟨r1, r2, r3⟩, t1, t2, t3⟩ := h3 i a ha
 exact ⟨vs, vt, c, ⟨r1.inR r2 hs hz, r2, r3⟩, t1.inR t2 hs hz, t2, t3⟩
theorem MadeA.below {R : Nat → Prop} {K : Nat} {W W' : World} {v : Value} {ats : List At} (h : MadeA R K W v ats) (hb : Below W.heap.size W W') : MadeA R K W' v ats := h.keep (fun b _ hl => hb.block b hl) hb.size
theorem MadeA.mono {R R' : Nat → Prop} {K : Nat} {W : World} {v : Value} {ats : List At} (h : MadeA R K W v ats) (hR : ∀ b, R b → R' b) : MadeA R' K W v ats := by
 obtain ⟨xs, h1, h2, h3⟩ := h
 refine ⟨xs, h1, fun b e => hR b (h2 b e), fun i a ha => ?_⟩
 obtain ⟨vs, vt, c, ⟨r1, r2, r3⟩, t1, t2, t3⟩ := h3 i a ha
 exact ⟨vs, vt, c, ⟨r1, r2.mono hR, r3⟩, t1, t2.mono hR, t3⟩
theorem MadeA.reads {R : Nat → Prop} {K : Nat} {W : World} {v : Value} {ats : List At} (h : MadeA R K W v ats) (hm : ats.length ≤ 9223372036854775807) : ReadsA W v ats := by
 obtain ⟨xs, h1, h2, h3⟩ := h
 refine own_readsA h1 rfl (fun i a ha => ?_) hm
 obtain ⟨vs, vt, ⟨c1, c2, c3, c4⟩, ⟨r1, _⟩, t1, _⟩ := h3 i a ha
 exact ⟨vs, vt, c1, c2, c3, c4, r1, t1⟩
theorem MadeA.slice {R : Nat → Prop} {K : Nat} {W : World} {v : Value} {ats : List At} (h : MadeA R K W v ats) : ∃ ao c, v = .slice ao ats.length c := by
 obtain ⟨xs, h1, _⟩ := h
 rcases h1.2 with ⟨rfl, h0⟩ | ⟨g, cap, cur, rfl, _⟩
 ·exact ⟨_, _, by rw [h0]⟩
 ·exact ⟨_, _, rfl⟩
theorem made_more {R R' : Nat → Prop} {K H : Nat} {W W' : World} {v v' : Value} {ats : List At} {xs : List Value} {a : At} {vs vt : Value}
    (hRR : ∀ b, R b → R' b) (hH : ∀ b, H ≤ b → b < W'.heap.size → R' b) (hvH : ∀ b, v.ownBlock = some b → b < H) (hHW : H ≤ W.heap.size)
    (h1 : W.ownsRow K 50 4 v ats.length xs) (h2 : ∀ b, v.ownBlock = some b → R b) (h3 : ∀ i a, ats[i]? = some a → AtS R W xs i a v)
    (own' : W'.ownsRow K 50 4 v' (ats.length + 1) (xs ++ [.int .i64 a.k, vs, vt, .int .i64 a.n])) (hg : W.grownBy W' v.ownBlock) (hat : v'.ownBlock = v.ownBlock ∨ v'.ownBlock = some W.heap.size)
    (hs : Reads W vs a.s) (ht : Reads W vt a.t) (ns : NewV H vs) (nt : NewV H vt) : MadeA R' K W' v' (ats ++ [a]) := by
 have hl : xs.length = ats.length * 4 := h1.1
 have newR : ∀ {u : Value} {t : List Int}, Reads W u t → NewV H u → InR R' u t := by
  intro u t hr hn h0 b off n c e
  have hb := hr.lt h0 b off n c e
  obtain ⟨ao, m, d, rfl, hK⟩ := hn
  obtain ⟨e1, _, _⟩ := Value.slice.inj e
  exact hH b (hK _ e1) (Nat.lt_of_lt_of_le hb hg.size)
 refine ⟨_, by rw [List.length_append]; exact own', fun b e => ?_, fun i a' ha => ?_⟩
 ·rcases hat with h | h
  ·exact hRR b (h2 b (h ▸ e))
  ·have hb := (own'.lt b e).2
   rw [h] at e
   have e2 := Option.some.inj e
   exact hH b (by omega) hb
 ·rcases Nat.lt_or_ge i ats.length with hi | hi
  ·rw [List.getElem?_append_left hi] at ha
   obtain ⟨us, ut, ⟨c1, c2, c3, c4⟩, ⟨r1, r2, r3⟩, t1, t2, t3⟩ := h3 i a' ha
   refine ⟨us, ut, ⟨?_, ?_, ?_, ?_⟩, ⟨r1.keptT hg r3, r2.mono hRR, r3.more r1 (Nat.le_refl _) hat⟩, t1.keptT hg t3, t2.mono hRR, t3.more t1 (Nat.le_refl _) hat⟩
   ·rw [List.getElem?_append_left (by omega)]; exact c1
   ·rw [List.getElem?_append_left (by omega)]; exact c2
   ·rw [List.getElem?_append_left (by omega)]; exact c3
   ·rw [List.getElem?_append_left (by omega)]; exact c4
  ·rw [List.getElem?_append_right hi] at ha
   have h0 : i = ats.length := by
    rcases Nat.eq_zero_or_pos (i - ats.length) with h | h
    ·omega
    ·rw [List.getElem?_eq_none (by simp; omega)] at ha; cases ha
   subst h0
   rw [Nat.sub_self] at ha
   obtain rfl : a = a' := by simpa using ha
   have as' : Apart vs a.s v := Apart.new ns hvH
   have at' : Apart vt a.t v := Apart.new nt hvH
   refine ⟨vs, vt, ⟨?_, ?_, ?_, ?_⟩, ⟨hs.keptT hg as', newR hs ns, as'.more hs (Nat.le_refl _) hat⟩, ht.keptT hg at', newR ht nt, at'.more ht (Nat.le_refl _) hat⟩
   ·rw [List.getElem?_append_right (by omega), hl, show ats.length * 4 - ats.length * 4 = 0 by omega]; rfl
   ·rw [List.getElem?_append_right (by omega), hl, show ats.length * 4 + 1 - ats.length * 4 = 1 by omega]; rfl
   ·rw [List.getElem?_append_right (by omega), hl, show ats.length * 4 + 2 - ats.length * 4 = 2 by omega]; rfl
   ·rw [List.getElem?_append_right (by omega), hl, show ats.length * 4 + 3 - ats.length * 4 = 3 by omega]; rfl
theorem appendIn_atom {F : Fence} {nF : Nat} {w : World} {ops : Array Oper} {rest : List Oper} {o : Oper} {a : Act} {Q : Exit → Act → World → Prop} (hgd : o.guard = none) (s x : Operand)
    (ho : o.op = .call { callee := .builtin .append, args := #[s, x], argTypes := #[22, 22] }) (K : Nat) (v : Value) (hs : a.eval s = v) (n : Nat) (xs : List Value) (k m : Int) (vs vt : Value) (hvs : vs.oneCell' = true) (hvt : vt.oneCell' = true) (B c : Nat) (hx : a.eval x = .slice (some ⟨B, 0, none⟩) 1 c)
    (hown : w.ownsRow K 50 4 v n xs) (hB : w.heap[B]? = some (.cells #[.int .i64 k, vs, vt, .int .i64 m] 50 (0, 0))) (hK : K ≤ w.heap.size) (h12 : n ≤ 1000000)
    (h : ∀ v' w', w'.ownsRow K 50 4 v' (n + 1) (xs ++ [.int .i64 k, vs, vt, .int .i64 m]) → w.grownBy w' v.ownBlock → (v'.ownBlock = v.ownBlock ∨ v'.ownBlock = some w.heap.size) → wpListIn F nF Tryz.prog ops Q rest (a.put o.dst v') w') :
    wpListIn F nF Tryz.prog ops Q (o :: rest) a w := by
 obtain ⟨i1, hi, hz0, hz1, hz2⟩ := info_parts infoAt
 refine wpListIn_append_own_at w hgd s x 22 ho K 50 i1 _ 4 64 Tryz.underlying22 hi hz0 hz1 hz2 rfl (by decide) v n xs hs hown ⟨B, 0, none⟩ 1 c [.int .i64 k, vs, vt, .int .i64 m] hx rfl (World.news_of_block hB) (by intro u hu; simp at hu; rcases hu with rfl | rfl | rfl | rfl; rfl; exact hvs; exact hvt; rfl) (by unfold maxLen; omega) (by omega) hK ?_
 intro v' w' h1 h2 _ h5
 exact h v' w' h1 h2 h5
theorem Blk.putT {G l : Nat} {W : World} {T : TypeId} {cs : Array Value} (h : Blk W G T cs) (o : Obj) (hl : G ≠ l) : Blk (W.putObj l o) G T cs := by
 unfold Blk; rw [World.putObj_heap_other hl]; exact h
theorem resultsT {fn : Func} {p q : Tmp} {ty tz : TypeId} (h : fn.results = #[.cell p ty, .cell q tz]) (tmps : Array Value) (P : Program) (w : World) :
    (results fn tmps).run P w = ((asAddr (tmps.getD p undef)).run P w).andThen fun a w1 => ((loadVar ty a).run P w1).andThen fun v w2 => ((asAddr (tmps.getD q undef)).run P w2).andThen fun b w3 => ((loadVar tz b).run P w3).andThen fun u w4 => .ok (.tuple #[v, u]) w4 := by
 simp only [results, h]
 simp [Sem.run_bind, Result.andThen]
theorem loadAT {W : World} {R : Nat} {v : Value} (h : Blk W R 22 #[v]) : (loadVar 22 ⟨R, 0, none⟩).run Tryz.prog W = .ok v W := by
 have hc : W.cell? ⟨R, 0, none⟩ = some v := h.cell 0
 simp [loadVar, Tryz.isAgg22, Result.andThen, hc]
theorem loadET {W : World} {R : Nat} {v : Value} (h : Blk W R 29 #[v]) : (loadVar 29 ⟨R, 0, none⟩).run Tryz.prog W = .ok v W := by
 have hc : W.cell? ⟨R, 0, none⟩ = some v := h.cell 0
 simp [loadVar, Tryz.isAgg29, Result.andThen, hc]
end Go.Proofs.YtjaedfjfcghgcabGreatDoor
namespace Go.Proofs.YtjaedfjfcghgcabGreatDoor
open Go.ChangeShapes Go.WideShapes Go.ChangeAt Go.RowKit
set_option maxRecDepth 100000
theorem lines_step {ats : List At} {k : Nat} {a : At} (h : ats[k]? = some a) : linesOf (ats.take (k + 1)) = linesOf (ats.take k) ++ (a.text ++ [10]) := by
 obtain ⟨hk, rfl⟩ := List.getElem?_eq_some_iff.1 h
 rw [List.take_succ_eq_append_getElem hk]
 unfold linesOf
 rw [List.map_append, List.flatten_append, List.map_cons, List.map_nil, List.flatten_cons, List.flatten_nil, List.append_nil]
theorem signs_step {c : List Int} {k : Nat} (h : k < c.length) : signsOf (c.take (k + 1)) = signsOf (c.take k) ++ (32 :: signW (c.getD k 0)) := by
 have e : c.getD k 0 = c[k] := by rw [List.getD_eq_getElem?_getD, List.getElem?_eq_getElem h]; rfl
 rw [List.take_succ_eq_append_getElem h, e]
 unfold signsOf
 rw [List.map_append, List.flatten_append, List.map_cons, List.map_nil, List.flatten_cons, List.flatten_nil, List.append_nil]
theorem lines_len {ats : List At} (h : ∀ a ∈ ats, a.fault = 0) : (linesOf ats).length ≤ 101 * ats.length := by
 induction ats with
 | nil => simp [linesOf]
 | cons a ats ih =>
  have h1 := ih fun b hb => h b (List.mem_cons_of_mem _ hb)
  have h2 : a.text.length ≤ 100 := atomText_size (h a List.mem_cons_self)
  unfold linesOf at h1 ⊢
  rw [List.map_cons, List.flatten_cons, List.length_append, List.length_append, List.length_cons]
  simp only [List.length_cons, List.length_nil]
  omega
theorem signs_len {m : Nat} (hm : m ≤ 6) : ∀ {c : List Int}, c.all (signF m) = true → (signsOf c).length ≤ 5 * c.length := by
 intro c
 induction c with
 | nil => intro _; simp [signsOf]
 | cons s c ih =>
  intro h
  rw [List.all_cons, Bool.and_eq_true] at h
  have h1 := ih h.2
  have h2 := (sign_back hm h.1).2.2.2
  unfold signsOf at h1 ⊢
  rw [List.map_cons, List.flatten_cons, List.length_append, List.length_cons, List.length_cons]
  omega
theorem text_len {ats : List At} {c : List Int} (h : formFault ats c = 0) : (formText ats c).length ≤ 800 := by
 obtain ⟨ha, hc, hf, hs, _⟩ := formFault_zero.1 h
 have h1 := lines_len hf
 have h2 := signs_len (by omega : ats.length ≤ 6) hs
 unfold formText codeW
 simp only [List.length_append, List.length_cons, List.length_nil]
 omega
theorem str_app {a b : ByteArray} {l m : List UInt8} (ha : a.data.toList = l) (hb : b.data.toList = m) : (a ++ b).data.toList = l ++ m := by
 rw [← ha, ← hb]; simp [ByteArray.data_append]
theorem str_len {a : ByteArray} {l : List UInt8} (h : a.data.toList = l) : a.size = l.length := by rw [← h]; exact Array.length_toList.symm
def printF (ats : List At) (c : List Int) : ByteArray := if formFault ats c = 0 then strOf (formText ats c) else ⟨#[]⟩
def readA (t : List UInt8) : List At := if formTextFault t = 0 then textAts t else []
def readC (t : List UInt8) : List Int := if formTextFault t = 0 then textCode t else []
end Go.Proofs.YtjaedfjfcghgcabGreatDoor
namespace Go.Proofs.YtjaedfjfcghgcabGreatDoor
open Go.ChangeShapes Go.WideShapes Go.ChangeAt Go.RowKit
set_option maxRecDepth 100000
def linesT (L : List (List UInt8)) : List UInt8 := (L.map fun x => x ++ [10]).flatten
def encL (x : List UInt8) : Array Value := #[.string (strOf (x ++ [10]))]
theorem lines_drop {L : List (List UInt8)} {k : Nat} {x : List UInt8} (h : L[k]? = some x) : linesT (L.drop k) = (x ++ [10]) ++ linesT (L.drop (k + 1)) := by
 obtain ⟨hk, rfl⟩ := List.getElem?_eq_some_iff.1 h
 rw [List.drop_eq_getElem_cons hk]
 rfl
theorem ten_at {x : List UInt8} (h : plainC 10 x = true) (r : List UInt8) : Lib.indexByte (x ++ 10 :: r) 10 = x.length := by
 induction x with
 | nil => rfl
 | cons b x ih =>
  simp [plainC] at h
  have hi : Lib.indexByte (x ++ 10 :: r) 10 = (x.length : Int) := ih (by simp [plainC]; exact h.2)
  show Lib.indexByte (b :: (x ++ 10 :: r)) 10 = _
  rw [Lib.indexByte, if_neg (by simpa using h.1), hi, if_neg (by simp)]
  simp
theorem lines_made (s : ByteArray) (w : World) : Calls Tryz.prog 96 #[.string s] w fun e w' => e = .returned (.func (.func 122) #[] #[.pointer (some ⟨w.heap.size, 0, none⟩)]) ∧ w' = w.alloc (.cells #[.string s] 9) := by
 go_enter Tryz.func96, Tryz.ntmps96
 go_wp2
 go_ret
 exact ⟨rfl, rfl⟩
set_option maxHeartbeats 4000000 in
theorem lines_iter (L : List (List UInt8)) (hL : ∀ x ∈ L, plainC 10 x = true) (hz : (linesT L).length ≤ 9223372036854775806) (n : Nat) (hn : 1 ≤ n) (Bu : Nat) (W : World) (hB : Blk W Bu 9 #[.string (strOf (linesT L))]) :
    SeqS n Tryz.prog 122 #[.pointer (some ⟨Bu, 0, none⟩)] encL L (fun b => b = Bu) W := by
 intro l J Jx hJ hY h0
 have HY : Hid (∀ (k : Nat) (x : List UInt8) (R : Nat → Prop) (W1 : World), L[k]? = some x → J k R W1 → YieldAt Fence.wide (n - 1) Tryz.prog l #[.string (strOf (x ++ [10]))] W1 fun e W' =>
     (e = .returned (.bool true) ∧ ∃ R', J (k + 1) R' W' ∧ OverS R (fun b => b = Bu) W.heap.size W1 W' ∧ ∀ b, R' b → R b ∨ W1.heap.size ≤ b) ∨ (e = .returned (.bool false) ∧ Jx (k + 1) W')) := hY
 have HJ := hide hJ
 have HLk : Hid (∀ (k : Nat) (x : List UInt8), L[k]? = some x → ∃ s : ByteArray, s = strOf (linesT (L.drop k)) ∧ (0 : Int) < (s.size : Int) ∧ (x.length : Int) + 1 ≤ (s.size : Int) ∧ (s.size : Int) ≤ 9223372036854775806 ∧ s.extract 0 (x.length + 1) = strOf (x ++ [10]) ∧ s.extract (x.length + 1) s.size = strOf (linesT (L.drop (k + 1))) ∧ ∀ W, Calls Tryz.prog 123 #[.string s, .int .u8 10] W (Sk W (.int .i64 (x.length : Int)))) := fun k x hx => by
  have e := lines_drop hx
  have hpl : plainC 10 x = true := hL x (List.mem_of_getElem? hx)
  have hlen : (linesT (L.drop k)).length ≤ (linesT L).length := by
   unfold linesT
   rw [List.map_drop]
   have h := congrArg List.length (List.take_append_drop k (L.map fun x => x ++ [10])).symm
   have h2 : ((L.map fun x => x ++ [10]).flatten).length = (((L.map fun x => x ++ [10]).take k).flatten).length + (((L.map fun x => x ++ [10]).drop k).flatten).length := by
    rw [← List.length_append, ← List.flatten_append, List.take_append_drop]
   omega
  have hs : (strOf (linesT (L.drop k))).size = x.length + 1 + (linesT (L.drop (k + 1))).length := by rw [strOf_size, e, List.length_append, List.length_append]; rfl
  have hs2 : (strOf (linesT (L.drop k))).size = (linesT (L.drop k)).length := strOf_size _
  have hx1 : (x ++ [10]).length = x.length + 1 := by simp
  refine ⟨_, rfl, by omega, by omega, by omega, ?_, ?_, fun W => ?_⟩
  ·rw [strOf_take, e, ← hx1, List.take_left]
  ·rw [strOf_drop _ _ _ (strOf_size _), e, ← hx1, List.drop_left]
  ·have h := indexByte_any (strOf (linesT (L.drop k))) 10 W
   have e2 : Lib.indexByte (strOf (linesT (L.drop k))).data.toList (Int.toNat 10).toUInt8 = (x.length : Int) := by
    rw [strOf_list, e, List.append_assoc]
    exact ten_at hpl _
   rw [e2] at h
   exact h
 have H0 := hide h0
 have HB : Hid (Blk W Bu 9 #[.string (strOf (linesT L))]) := hB
 have HBl := hide (hB.lt)
 clear hY hJ h0 hB hL hz
 refine callsIn_of_wp Tryz.func122 rfl trivial ?_ rfl
 simp only [Tryz.ntmps122, List.size_toArray, List.length_cons, List.length_nil, Nat.reduceAdd, Nat.reduceSub, Array.replicate_succ, Array.replicate_zero, List.push_toArray, List.append_toArray, List.nil_append, List.cons_append]
 gi_wp2_with fail
 gi_loopg [] (L.length + 1) (fun gk wr => ∃ (k : Nat) (R : Nat → Prop), k ≤ L.length ∧ gk + k = L.length + 1 ∧ (J k R wr ∧ ¬ R Bu) ∧ Blk wr Bu 9 #[.string (strOf (linesT (L.drop k)))])
 case atStart => exact ⟨0, _, Nat.zero_le _, rfl, ⟨H0.out, fun h => h⟩, HB.out⟩
 case round =>
  obtain ⟨k, R, hk, hg, ⟨hj, hr⟩, hb⟩ := hrel
  have HG := hide hg
  have HJk := hide hj
  have HR := hide hr
  have HBk : Hid (Blk wr Bu 9 #[.string (strOf (linesT (L.drop k)))]) := hb
  clear hg hj hr hb
  by_cases hlt : k < L.length
  ·obtain ⟨x, hx⟩ : ∃ x, L[k]? = some x := ⟨_, List.getElem?_eq_getElem hlt⟩
   have HX := hide hx
   obtain ⟨s, hs, s0, s1, s2, e1, e2, hI⟩ := HLk.out k x hx
   have HI := hide hI
   have HE : Hid (s.extract 0 (x.length + 1) = strOf (x ++ [10]) ∧ s.extract (x.length + 1) s.size = strOf (linesT (L.drop (k + 1)))) := ⟨e1, e2⟩
   rw [← hs] at HBk
   obtain ⟨j, hj⟩ := nm x.length
   rw [← hj] at s1 HI HE
   clear hs e1 e2 hI hx hj
   have c0 : wr.cell? ⟨Bu, 0, none⟩ = some (.string s) := HBk.out.cell 0
   have c1 : wr.drew.cell? ⟨Bu, 0, none⟩ = some (.string s) := c0
   have f1 : wr.drew.frozen? ⟨Bu, 0, none⟩ = false := HBk.out.frozen 0
   obtain ⟨W5, hW5⟩ := nm ((wr.drew.setCell ⟨Bu, 0, none⟩ (.string (s.extract (j + 1) s.size))))
   gi_wp2_with fail
   refine ⟨trivial, ?_⟩
   gi_at_call 123
   refine (callsIn_wide.2 (HI.out _)).mono ?_
   rintro e w8 ⟨rfl, rfl⟩
   have d0 : (0 : Int) ≤ (j : Int) + 1 := by omega
   have d1 : (0 : Int) ≤ (j : Int) := by omega
   gi_upto_region 4 with fail
   gi_cut [3] from 5 (fun line wc => line = .string (strOf (x ++ [10])) ∧ wc = W5)
   case first =>
    gi_region
    all_goals (try gi_wp2)
    all_goals gi_meet
    all_goals exact ⟨by rw [← HE.out.1], hW5.symm⟩
   case rest =>
   obtain ⟨rfl, rfl⟩ := hcut
   have hb5 : Blk wc Bu 9 #[.string (strOf (linesT (L.drop (k + 1))))] := by
    rw [hW5, ← HE.out.2]
    exact (HBk.out.drew).set 0 _
   have hk5 : KeepS R (fun b => b = Bu) W.heap.size wr wc := by
    rw [hW5]
    refine ⟨(Below.drew (Below.refl _ _)).setCell (Nat.zero_le _) _, fun b _ hb => Below.heap_setCell _ _ _ _ hb, fun b hb _ => Below.heap_setCell _ _ _ _ fun e => HR.out (by have e2 : b = Bu := e; rw [e2] at hb; exact hb)⟩
   obtain ⟨fn, tmps, assign, body, hy, hRn⟩ := HY.out k x R wc HX.out (HJ.out _ _ _ _ HJk.out hk5)
   have HB5 : Hid (Blk wc Bu 9 #[.string (strOf (linesT (L.drop (k + 1))))]) := hb5
   clear hW5 hb5 hk5 c0 c1 f1 d0 d1
   gi_wp2
   refine hRn.mono ?_
   rintro e W6 (⟨rfl, R', hJ6, hO6, hR6⟩ | ⟨rfl, hJx6⟩)
   ·have HJ6 := hide hJ6
    have HB6 : Hid (Blk W6 Bu 9 #[.string (strOf (linesT (L.drop (k + 1))))]) := by
     unfold Hid Blk; rw [hO6.same _ (Or.inr rfl) HB5.out.lt HR.out]; exact HB5.out
    have HR6 : Hid (¬ R' Bu) := fun h => by
     rcases hR6 _ h with h | h
     ·exact HR.out h
     ·have := HB5.out.lt; omega
    clear hJ6 hO6 hR6 hy hRn
    gi_wp2
    gi_roundg (L.length - k)
    case rel => exact ⟨k + 1, R', by omega, by omega, ⟨HJ6.out, HR6.out⟩, HB6.out⟩
    case measure => have := HG.out; omega
   ·gi_wp2
    exact bodyPost_ret (results_none rfl _ _ _) rfl ⟨⟨_, rfl⟩, .inr ⟨k, hlt, hJx6⟩⟩
  ·obtain rfl : k = L.length := by omega
   have e1 : strOf (linesT (L.drop L.length)) = ⟨#[]⟩ := by rw [List.drop_eq_nil_of_le (Nat.le_refl _)]; rfl
   rw [e1] at HBk
   have c0 : wr.cell? ⟨Bu, 0, none⟩ = some (.string ⟨#[]⟩) := HBk.out.cell 0
   gi_wp2
   go_end0
   exact ⟨⟨_, rfl⟩, .inl ⟨R, HJk.out⟩⟩
end Go.Proofs.YtjaedfjfcghgcabGreatDoor
namespace Go.Proofs.YtjaedfjfcghgcabGreatDoor
open Go.ChangeShapes Go.WideShapes Go.ChangeAt Go.RowKit
set_option maxRecDepth 100000
def endB (s : ByteArray) : Bool := decide (1 ≤ s.size) && ((s.extract (s.size - 1) s.size).toList == [10])
theorem endB_app (l : List UInt8) : endB (strOf (l ++ [10])) = true := by
 unfold endB
 have h : (strOf (l ++ [10])).size = l.length + 1 := by rw [strOf_size]; simp
 rw [h, Lib.toList_data, Lib.extract_data, strOf_list]
 simp
theorem endB_some {s : ByteArray} (h : endB s = true) : ∃ l, s = strOf (l ++ [10]) ∧ s.data.toList = l ++ [10] := by
 unfold endB at h
 rw [Bool.and_eq_true, decide_eq_true_eq] at h
 obtain ⟨h1, h2⟩ := h
 have hl : s.data.toList.length = s.size := Array.length_toList
 have e := eq_of_beq h2
 rw [Lib.toList_data, Lib.extract_data, List.take_of_length_le (by rw [List.length_drop]; omega)] at e
 have e2 := List.take_append_drop (s.size - 1) s.data.toList
 rw [e] at e2
 exact ⟨s.data.toList.take (s.size - 1), by rw [e2, strOf_data], e2.symm⟩
set_option maxHeartbeats 1000000 in
theorem hasEnd_any (s : ByteArray) (hs : s.size ≤ 9223372036854775807) (w : World) :
    Calls Tryz.prog 119 #[.string s, .string ⟨#[10]⟩] w (Sk w (.bool (endB s))) := by
 unfold endB
 by_cases h : 1 ≤ s.size
 ·go_enter Tryz.func119, Tryz.ntmps119
  go_wp2
  go_ret
  refine ⟨?_, rfl⟩
  simp [h]
 ·go_enter Tryz.func119, Tryz.ntmps119
  go_wp2
  go_ret
  refine ⟨?_, rfl⟩
  simp
theorem drop_end (l : List UInt8) (n : Nat) (h : n = l.length) : (strOf (l ++ [10])).extract 0 n = strOf l := by
 rw [strOf_take, h, List.take_left]
set_option maxHeartbeats 1000000 in
theorem cutEnd_hit (l : List UInt8) (hz : l.length + 1 ≤ 9223372036854775807) (w : World) :
    Calls Tryz.prog 50 #[.string (strOf (l ++ [10])), .string ⟨#[10]⟩] w (Sk w (.tuple #[.string (strOf l), .bool true])) := by
 have hn : (strOf (l ++ [10])).size = l.length + 1 := by rw [strOf_size]; simp
 have HH : Hid (∀ W, Calls Tryz.prog 119 #[.string (strOf (l ++ [10])), .string ⟨#[10]⟩] W (Sk W (.bool true))) := fun W => by
  have h := hasEnd_any (strOf (l ++ [10])) (by omega) W
  rw [endB_app] at h
  exact h
 have HD : Hid (∀ n, n = l.length → (strOf (l ++ [10])).extract 0 n = strOf l) := fun n h => drop_end l n h
 obtain ⟨s, hs⟩ := nm (strOf (l ++ [10]))
 rw [← hs] at hn HH HD ⊢
 clear hs
 have HC : Hid (∀ W, Calls Tryz.prog 91 #[.string s, .string ⟨#[10]⟩] W (Sk W (.tuple #[.string (strOf l), .bool true]))) := fun W => by
  have h1 : (1 : Int) ≤ (s.size : Int) := by omega
  have h2 : (s.size : Int) ≤ 9223372036854775807 := by omega
  go_enter Tryz.func91, Tryz.ntmps91
  go_wp2_with (go_at_call 119; refine (HH.out _).mono ?_; rintro e w' ⟨rfl, rfl⟩)
  go_ret2
  refine ⟨?_, rfl⟩
  rw [HD.out _ (by omega)]
  rfl
 go_enter Tryz.func50, Tryz.ntmps50
 go_wp2_with (go_at_call 91; refine (HC.out _).mono ?_; rintro e w' ⟨rfl, rfl⟩)
 go_ret2
 exact ⟨rfl, rfl⟩
set_option maxHeartbeats 1000000 in
theorem cutEnd_miss (s : ByteArray) (hz : s.size ≤ 9223372036854775807) (he : endB s = false) (w : World) :
    Calls Tryz.prog 50 #[.string s, .string ⟨#[10]⟩] w (Sk w (.tuple #[.string s, .bool false])) := by
 have HH : Hid (∀ W, Calls Tryz.prog 119 #[.string s, .string ⟨#[10]⟩] W (Sk W (.bool false))) := fun W => by
  have h := hasEnd_any s hz W
  rw [he] at h
  exact h
 have HC : Hid (∀ W, Calls Tryz.prog 91 #[.string s, .string ⟨#[10]⟩] W (Sk W (.tuple #[.string s, .bool false]))) := fun W => by
  go_enter Tryz.func91, Tryz.ntmps91
  go_wp2_with (go_at_call 119; refine (HH.out _).mono ?_; rintro e w' ⟨rfl, rfl⟩)
  go_ret2
  exact ⟨rfl, rfl⟩
 go_enter Tryz.func50, Tryz.ntmps50
 go_wp2_with (go_at_call 91; refine (HC.out _).mono ?_; rintro e w' ⟨rfl, rfl⟩)
 go_ret2
 exact ⟨rfl, rfl⟩
set_option maxHeartbeats 1000000 in
theorem trimEnd_hit (l : List UInt8) (hz : l.length + 1 ≤ 9223372036854775807) (w : World) :
    Calls Tryz.prog 98 #[.string (strOf (l ++ [10])), .string ⟨#[10]⟩] w (Sk w (.string (strOf l))) := by
 have hn : (strOf (l ++ [10])).size = l.length + 1 := by rw [strOf_size]; simp
 have HH : Hid (∀ W, Calls Tryz.prog 119 #[.string (strOf (l ++ [10])), .string ⟨#[10]⟩] W (Sk W (.bool true))) := fun W => by
  have h := hasEnd_any (strOf (l ++ [10])) (by omega) W
  rw [endB_app] at h
  exact h
 have HD : Hid (∀ n, n = l.length → (strOf (l ++ [10])).extract 0 n = strOf l) := fun n h => drop_end l n h
 obtain ⟨s, hs⟩ := nm (strOf (l ++ [10]))
 rw [← hs] at hn HH HD ⊢
 clear hs
 have HC : Hid (∀ W, Calls Tryz.prog 129 #[.string s, .string ⟨#[10]⟩] W (Sk W (.string (strOf l)))) := fun W => by
  have h1 : (1 : Int) ≤ (s.size : Int) := by omega
  have h2 : (s.size : Int) ≤ 9223372036854775807 := by omega
  go_enter Tryz.func129, Tryz.ntmps129
  go_wp2_with (go_at_call 119; refine (HH.out _).mono ?_; rintro e w' ⟨rfl, rfl⟩)
  go_ret
  refine ⟨?_, rfl⟩
  rw [HD.out _ (by omega)]
  rfl
 go_enter Tryz.func98, Tryz.ntmps98
 go_wp2_with (go_at_call 129; refine (HC.out _).mono ?_; rintro e w' ⟨rfl, rfl⟩)
 go_ret
 exact ⟨rfl, rfl⟩
def lastTen (l : List UInt8) : Nat → Int
 | 0 => -1
 | k + 1 => if l.getD k 0 = 10 then (k : Int) else lastTen l k
theorem lastTen_plain {l : List UInt8} {a : Nat} : ∀ {k : Nat}, (∀ j, a ≤ j → j < k → l.getD j 0 ≠ 10) → a ≤ k → lastTen l k = lastTen l a := by
 intro k
 induction k with
 | zero => intro _ h; rw [Nat.le_zero.1 h]
 | succ k ih =>
  intro h hk
  rcases Nat.lt_or_ge k a with hl | hl
  ·rw [show a = k + 1 by omega]
  ·rw [lastTen, if_neg (h k hl (by omega)), ih (fun j h1 h2 => h j h1 (by omega)) hl]
set_option maxHeartbeats 2000000 in
theorem lastByte_any (s : ByteArray) (hs : s.size < 4611686018427387904) (w : World) :
    Calls Tryz.prog 92 #[.string s, .int .u8 10] w (Sk w (.int .i64 (lastTen s.data.toList s.size))) := by
 obtain ⟨R, hR⟩ := nm (lastTen s.data.toList s.size)
 rw [← hR]
 have HR := hide hR
 clear hR
 have HLen : Hid (s.data.toList.length = s.size) := Array.length_toList
 go_enter Tryz.func92, Tryz.ntmps92
 go_wp2
 go_loop [5] (fun vi => ∃ k : Nat, k ≤ s.size ∧ vi = .int .i64 ((k : Int) - 1) ∧ R = lastTen s.data.toList k) (fun vi => ((intOf vi) + 1).toNat)
 case atStart => exact ⟨s.size, Nat.le_refl _, by first | rfl | go_num | (congr 1; omega), HR.out⟩
 case round =>
  obtain ⟨k, hk, rfl, hh⟩ := hrel
  have HH := hide hh
  clear hh
  by_cases h0 : k = 0
  ·subst h0
   go_wp2
   go_ret
   refine ⟨?_, rfl⟩
   rw [HH.out]; rfl
  ·obtain ⟨j, rfl⟩ : ∃ j, k = j + 1 := ⟨k - 1, by omega⟩
   have e : ((j + 1 : Nat) : Int) - 1 = (j : Int) := by omega
   rw [e]
   clear e h0
   have hj : j < s.size := by omega
   have hj' : (j : Int) < (s.size : Int) := by omega
   have HGD : Hid (s.data.toList.getD j 0 = s[j]'hj) := by
    unfold Hid
    have hk' : j < s.data.toList.length := by rw [Array.length_toList]; exact hj
    rw [List.getD_eq_getElem?_getD, List.getElem?_eq_getElem hk']
    rfl
   by_cases hb : s[j]'hj = 10
   ·have hb' : (((s[j]'hj).toNat : Int) == 10) = true := by rw [hb]; simp
    have HS : Hid (R = (j : Int)) := by unfold Hid; rw [HH.out, lastTen, if_pos (by rw [HGD.out]; exact hb)]
    clear hb HGD
    go_wp2
    go_ret
    exact ⟨back_i HS.out.symm, rfl⟩
   ·have hb' : (((s[j]'hj).toNat : Int) == 10) = false := by
     have h : (s[j]'hj).toNat ≠ 10 := fun h => hb (UInt8.toNat_inj.1 h)
     simp; omega
    have HS : Hid (R = lastTen s.data.toList j) := by unfold Hid; rw [HH.out, lastTen, if_neg (by rw [HGD.out]; exact hb)]
    clear hb HGD
    go_wp2
    go_round
    case rel => exact ⟨j, by omega, by go_num, HS.out⟩
    case measure => simp [intOf]
theorem lastIndex_any (s : ByteArray) (hs : s.size < 4611686018427387904) (w : World) :
    Calls Tryz.prog 51 #[.string s, .string ⟨#[10]⟩] w (Sk w (.int .i64 (lastTen s.data.toList s.size))) := by
 have HL : Hid (∀ W, Calls Tryz.prog 92 #[.string s, .int .u8 10] W (Sk W (.int .i64 (lastTen s.data.toList s.size)))) := fun W => lastByte_any s hs W
 go_enter Tryz.func51, Tryz.ntmps51
 go_wp2_with (go_at_call 92; refine (HL.out _).mono ?_; rintro e w' ⟨rfl, rfl⟩)
 go_ret
 exact ⟨rfl, rfl⟩
set_option maxHeartbeats 1000000 in
theorem cutWord_hit (s : ByteArray) (j : Nat) (hj : blankAt s.data.toList = j) (hz : s.size ≤ 9223372036854775806) (w : World) :
    Calls Tryz.prog 94 #[.string s, .string ⟨#[32]⟩] w (Bk w (.tuple #[.string (s.extract 0 j), .string (s.extract (j + 1) s.size), .bool true])) := by
 have hr := blankAt_range s.data.toList
 have hl : s.data.toList.length = s.size := Array.length_toList
 have HI : Hid (∀ W, Calls Tryz.prog 151 #[.string s, .string ⟨#[32]⟩] W (Sk W (.int .i64 (j : Int)))) := fun W => by
  have h := slIndex_one s W
  rw [hj] at h
  exact h
 have c1 : (0 : Int) ≤ (j : Int) := by omega
 have c2 : (j : Int) ≤ (s.size : Int) := by omega
 have c3 : (0 : Int) ≤ (j : Int) + 1 := by omega
 have c4 : (j : Int) + 1 ≤ (s.size : Int) := by omega
 clear hr hl hj
 have HC : Hid (∀ W, Calls Tryz.prog 121 #[.string s, .string ⟨#[32]⟩] W (Bk W (.tuple #[.string (s.extract 0 j), .string (s.extract (j + 1) s.size), .bool true]))) := fun W => by
  go_enter Tryz.func121, Tryz.ntmps121
  go_wp2_with (go_at_call 151; refine (HI.out _).mono ?_; rintro e w' ⟨rfl, rfl⟩)
  go_region
  go_wp2
  go_ret3
  exact ⟨rfl, (Below.refl _ _).drew⟩
 go_enter Tryz.func94, Tryz.ntmps94
 go_wp2_with (go_at_call 121; refine (HC.out _).mono ?_; rintro e w' ⟨rfl, hb⟩)
 go_ret3
 exact ⟨rfl, hb⟩
set_option maxHeartbeats 1000000 in
theorem cutWord_miss (s : ByteArray) (hj : blankAt s.data.toList = -1) (w : World) :
    Calls Tryz.prog 94 #[.string s, .string ⟨#[32]⟩] w (Bk w (.tuple #[.string s, .string ⟨#[]⟩, .bool false])) := by
 have HI : Hid (∀ W, Calls Tryz.prog 151 #[.string s, .string ⟨#[32]⟩] W (Sk W (.int .i64 (-1)))) := fun W => by
  have h := slIndex_one s W
  rw [hj] at h
  exact h
 clear hj
 have HC : Hid (∀ W, Calls Tryz.prog 121 #[.string s, .string ⟨#[32]⟩] W (Sk W (.tuple #[.string s, .string ⟨#[]⟩, .bool false]))) := fun W => by
  go_enter Tryz.func121, Tryz.ntmps121
  go_wp2_with (go_at_call 151; refine (HI.out _).mono ?_; rintro e w' ⟨rfl, rfl⟩)
  go_ret3
  exact ⟨rfl, rfl⟩
 go_enter Tryz.func94, Tryz.ntmps94
 go_wp2_with (go_at_call 121; refine (HC.out _).mono ?_; rintro e w' ⟨rfl, rfl⟩)
 go_ret3
 exact ⟨rfl, Below.refl _ _⟩
theorem cutWord_any (y : List UInt8) (L : List (List UInt8)) (hy : plainC 32 y = true) (hz : (joinB 32 (y :: L)).length ≤ 9223372036854775806) (w : World) :
    Calls Tryz.prog 94 #[.string (strOf (joinB 32 (y :: L))), .string ⟨#[32]⟩] w (Bk w (.tuple #[.string (strOf y), .string (strOf (joinB 32 L)), .bool (!L.isEmpty)])) := by
 cases L with
 | nil => exact cutWord_miss (strOf y) (by rw [strOf_list]; have h1 := blankAt_none hy; have h2 := (blankAt_range y).1; omega) w
 | cons z L =>
  have e : joinB 32 (y :: z :: L) = y ++ 32 :: joinB 32 (z :: L) := rfl
  rw [e] at hz ⊢
  have h := cutWord_hit (strOf (y ++ 32 :: joinB 32 (z :: L))) y.length (by rw [strOf_list]; exact blankAt_plain hy _) (by rw [strOf_size]; exact hz) w
  have e1 : (strOf (y ++ 32 :: joinB 32 (z :: L))).extract 0 y.length = strOf y := by rw [strOf_take, List.take_left]
  have e2 : (strOf (y ++ 32 :: joinB 32 (z :: L))).extract (y.length + 1) (strOf (y ++ 32 :: joinB 32 (z :: L))).size = strOf (joinB 32 (z :: L)) := by
   rw [strOf_drop _ _ _ (strOf_size _), ← List.drop_drop, List.drop_left]; rfl
  rw [e1, e2] at h
  exact h
end Go.Proofs.YtjaedfjfcghgcabGreatDoor