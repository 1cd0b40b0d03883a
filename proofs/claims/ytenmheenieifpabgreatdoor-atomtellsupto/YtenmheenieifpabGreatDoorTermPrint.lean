/-
  Proved: what term.Print returns, of any row of signs; what was in memory is as it was (a contract that the statements lean on).
-/
import Derived.Test.YtenmheenieifpabGreatDoorTermFill
import Derived.Laws.BytesArg
import Derived.Laws.IdiomStrings
namespace Go.Proofs.YtenmheenieifpabGreatDoor
open Go.ChangeShapes Go.WideShapes Go.ChangeAt Go.RowKit

theorem infoByte : (Tryz.prog.info? 5).map (fun i => (i.zero, i.size, i.bytes)) = some (some (.int .u8 0), 1, 1) := by kernel_rfl
def strOf (l : List UInt8) : ByteArray := ⟨l.toArray⟩

/-- what Print answers. -/
def printS (t : List Int) : ByteArray := if faultN t = 0 then strOf (textN t) else ⟨#[]⟩

theorem print_bad (t : List Int) (v : Value) (w : World) (h : Reads w v t) (hf : ¬ faultN t = 0) :
    Calls Tryz.prog 24 #[v] w fun e w' => e = .returned (.tuple #[.string ⟨#[]⟩, .iface 51 (.int .i64 (faultN t))]) ∧ Below w.heap.size w w' := by
  have HC : Hid (Calls Tryz.prog 20 #[v] w fun e w' => e = .returned (.iface 51 (.int .i64 (faultN t))) ∧ w = w') := by
    have := tcheck_any t v _ h
    unfold errV at this
    rw [if_neg hf] at this
    exact this
  clear h hf
  obtain ⟨F, hF⟩ : ∃ F, F = faultN t := ⟨_, rfl⟩
  rw [← hF] at HC ⊢
  clear hF
  go_enter Tryz.func24, Tryz.ntmps24
  go_wp2_with (go_at_call 20; refine HC.out.mono ?_; rintro e w' ⟨rfl, rfl⟩)
  go_ret2
  exact ⟨rfl, Below.refl _ _⟩

set_option maxRecDepth 100000 in
set_option maxHeartbeats 4000000 in
theorem print_good (t : List Int) (B off cap : Nat) (w : World) (hB : B < w.heap.size) (hcap : t.length ≤ cap) (hf : faultN t = 0) (hc : ∀ k, k < t.length → w.cell? ⟨B, off + k, none⟩ = some (.int .i64 (t.getD k 0))) :
    Calls Tryz.prog 24 #[.slice (some ⟨B, off, none⟩) t.length cap] w fun e w' => e = .returned (.tuple #[.string (strOf (textN t)), .nilIface]) ∧ Below w.heap.size w w' := by
  obtain ⟨i0, hi, hz0, hz1, hz2⟩ := info_parts infoByte
  obtain ⟨f1, f2, f3, f4⟩ := fault_zero.1 hf
  have HC : Hid (Calls Tryz.prog 20 #[.slice (some ⟨B, off, none⟩) t.length cap] w fun e w' => e = .returned .nilIface ∧ w = w') := by
    have := tcheck_any t (.slice (some ⟨B, off, none⟩) t.length cap) w (Or.inr ⟨B, off, cap, rfl, hB, by omega, ⟨by omega, hcap⟩, hc⟩)
    rw [hf] at this
    exact this
  have HC1 : Hid (∀ k, k < t.length → w.cell? ⟨B, off + k, none⟩ = some (.int .i64 (t.getD k 0))) := hc
  have HB : Hid (B < w.heap.size) := hB
  have HS : Hid (t.all signB = true) := f3
  clear hc hB f1 f3 f4 hf hcap
  obtain ⟨n, hn⟩ : ∃ n, n = t.length := ⟨_, rfl⟩
  rw [← hn] at HC f2 ⊢
  have HN : Hid (n = t.length) := hn
  clear hn
  obtain ⟨f, hf⟩ : ∃ f : Nat → Value, f = fun j => .int .u8 ((byteOf (t.getD j 0)).toNat : Int) := ⟨_, rfl⟩
  have HF : Hid (f = fun j => .int .u8 ((byteOf (t.getD j 0)).toNat : Int)) := hf
  clear hf
  obtain ⟨G, hG⟩ : ∃ G, G = w.heap.size := ⟨_, rfl⟩
  have HG : Hid (G = w.heap.size) := hG
  obtain ⟨T, hT⟩ : ∃ T, T = strOf (textN t) := ⟨_, rfl⟩
  rw [← hT]
  have HT : Hid (T = strOf (textN t)) := hT
  clear hT
  go_enter Tryz.func24, Tryz.ntmps24
  go_wp2_with (first | (go_at_call 20; refine HC.out.mono ?_; rintro e w' ⟨rfl, rfl⟩) | (at_make; refine wpList_make_full _ rfl _ _ 88 rfl G 5 i0 (.int .u8 0) 1 Tryz.underlying88 hi hz0 hz1 .i64 .i64 _ _ n rfl rfl ?m0 ?m1 ?m2 ?m3 ?m4 ?_))
  case m0 => rfl
  case m1 => rfl
  case m2 => rw [hz2]; omega
  case m3 => unfold maxLen; omega
  case m4 => omega
  intro w1 hown1 hgrow1
  have HO : Hid (w1.ownsRow G 5 1 (.slice (some ⟨G, 0, none⟩) n n) n (fill f (.int .u8 0) n 0) ∧ Below G w w1) := by
    refine ⟨?_, ?_⟩
    · rw [fill_zero, ← toList_madeCells_one, hG]
      simpa [Value.cells, hG] using hown1
    · exact (Below.refl _ _).grown hgrow1 (by omega) (fun k hk => by cases hk)
  rw [← hG]
  clear hown1 hgrow1 hG HC
  go_wp2
  go_loopw [18] (fun i wr => ∃ k : Nat, k ≤ n ∧ i = .int .i64 k ∧ wr.ownsRow G 5 1 (.slice (some ⟨G, 0, none⟩) n n) n (fill f (.int .u8 0) n k) ∧ Below G w wr) (fun i _ => n - (intOf i).toNat)
  case atStart => exact ⟨0, Nat.zero_le _, rfl, HO.out.1, HO.out.2⟩
  case round =>
    obtain ⟨k, hk, rfl, hown, hbel⟩ := hrel
    by_cases hlt : k < n
    · obtain ⟨s, hs⟩ : ∃ s, s = t.getD k 0 := ⟨_, rfl⟩
      have hkt : k < t.length := by rw [← HN.out]; exact hlt
      have hcell : wr.cell? ⟨B, off + k, none⟩ = some (.int .i64 s) := by rw [hs, hbel.cell (by rw [HG.out]; exact HB.out)]; exact HC1.out k hkt
      have hsg : signB s = true := by
        refine List.all_eq_true.1 HS.out s ?_
        rw [hs, List.getD_eq_getElem?_getD, List.getElem?_eq_getElem hkt]; exact List.getElem_mem hkt
      have hfr : wr.frozen? ⟨G, k, none⟩ = false := hown.frozenAt k
      have hcg : wr.cell? ⟨G, k, none⟩ = some (.int .u8 0) := by rw [hown.cellAt k (by omega), fill_get _ _ _ _ _ hlt, if_neg (by omega)]
      have HR : Hid ((wr.setCell ⟨G, k, none⟩ (.int .u8 ((byteOf s).toNat : Int))).ownsRow G 5 1 (.slice (some ⟨G, 0, none⟩) n n) n (fill f (.int .u8 0) n (k + 1)) ∧ Below G w (wr.setCell ⟨G, k, none⟩ (.int .u8 ((byteOf s).toNat : Int)))) := by
        have := hown.stored k (f k)
        rw [fill_set] at this
        have e : f k = .int .u8 ((byteOf s).toNat : Int) := by rw [HF.out, hs]
        rw [e] at this
        exact ⟨this.1, hbel.setCell (Nat.le_refl _) _⟩
      clear hs hkt hown hbel
      rcases nine hsg with rfl | rfl | rfl | rfl | rfl | rfl | rfl | rfl | rfl
      all_goals
        clear hsg
        go_wp2
        go_roundw
        case rel => exact ⟨k + 1, by omega, by go_num, HR.out.1, HR.out.2⟩
        case measure => simp [intOf]; omega
    · obtain rfl : k = n := by omega
      have HCV : Hid (∀ dst, Tryz.prog.underlying dst = some .string → (convert 88 dst (.slice (some ⟨G, 0, none⟩) k k)).run Tryz.prog wr = .ok (.string T) wr) := by
        intro dst hd
        have e1 : (textN t).length = k := by rw [HN.out]; simp [textN]
        have := run_convert_bytes_back (P := Tryz.prog) wr 88 dst 5 ⟨G, 0, none⟩ k (textN t) Tryz.underlying88 Tryz.underlying5 hd (fun j hj => by
          have hjk : j < k := by omega
          have ha : (⟨G, 0, none⟩ : Addr).add j = ⟨G, j, none⟩ := by unfold Addr.add; split <;> simp_all
          rw [ha, hown.cellAt j (by omega), fill_get _ _ _ _ _ hjk, if_pos hjk, HF.out]
          have hjt : j < t.length := by rw [← HN.out]; exact hjk
          simp [textN, List.getElem?_eq_getElem hjt])
        rw [e1] at this
        rw [HT.out]; exact this
      have hcv := HCV.out
      have HBw : Hid (Below w.heap.size w wr) := by unfold Hid; rw [← HG.out]; exact hbel
      clear hown hbel
      go_wp2
      go_ret2
      exact ⟨rfl, HBw.out⟩

/-- Print, whatever the row of signs. -/
theorem print_any (t : List Int) (v : Value) (w : World) (h : Reads w v t) :
    Calls Tryz.prog 24 #[v] w fun e w' => e = .returned (.tuple #[.string (printS t), errV (faultN t)]) ∧ Below w.heap.size w w' := by
  by_cases hf : faultN t = 0
  · have e1 : printS t = strOf (textN t) := by unfold printS; rw [if_pos hf]
    rw [e1, hf]
    rcases h with ⟨ao, cap, rfl, rfl⟩ | ⟨B, off, cap, rfl, hB, _, ⟨_, hcap⟩, hc⟩
    · exact absurd hf (by decide)
    · exact print_good t B off cap w hB hcap hf hc
  · have e1 : printS t = ⟨#[]⟩ := by unfold printS; rw [if_neg hf]
    have e2 : errV (faultN t) = .iface 51 (.int .i64 (faultN t)) := by unfold errV; rw [if_neg hf]
    rw [e1, e2]
    exact print_bad t v w h hf
end Go.Proofs.YtenmheenieifpabGreatDoor
