/- DoMeet's look at the critical parts, in the program: ContainsFunc over parts with DoMeet's closure. -/
import Derived.Test.YtklgganapphioaaGrC
namespace Go.Proofs.Ytklgganapphioaa
open Go.RowKit Go.Joins

/-- whether groups that agree on the answers of a part have no common voter -/
def noneB (v : Int) (ws : List Int) (m : Nat × Nat) : Bool := cgK v ws m ws.length 0
set_option maxRecDepth 100000 in
theorem doMeet1_any (v : Int) (b : Option Addr) (ws : List Int) (capb pc pb g : Nat) (w : World) (hv : 1 ≤ v ∧ v ≤ 3) (hi : Ints w b ws) (hl : ws.length ≤ 4) (hr : ∀ x ∈ ws, 0 ≤ x ∧ x ≤ 255) (hm : pc < 16 ∧ pb < 16) (q0 : w.cell? ⟨g, 0, none⟩ = some (.int .i64 v)) (q1 : w.cell? ⟨g, 1, none⟩ = some (.slice b ws.length capb)) :
    Calls Try.prog 90 #[.agg #[.int .i64 (pc : Int), .int .i64 (pb : Int)], .pointer (some ⟨g, 0, none⟩)] w fun e w' => e = .returned (.bool (noneB v ws (pc, pb))) ∧ Below w.heap.size w w' := by
  have hlt := World.block_lt_of_cell? w ⟨g, 0, none⟩ q0
  have B1 := bel1 w (.cells #[.int .i64 (pc : Int), .int .i64 (pb : Int)] 52)
  have c0 := (B1.cell (p := ⟨g, 0, none⟩) hlt).trans q0
  have c1 := (B1.cell (p := ⟨g, 1, none⟩) hlt).trans q1
  have I1 := hide (hi.below B1)
  have HB := hide B1
  have HV := hide hv
  have HR := hide hr
  have HM := hide hm
  have hidx : ∀ w : World, (Instr.index 81 (.agg #[Value.bool ((cgK v ws (pc, pb) ws.length) 0), Value.bool ((cgK v ws (pc, pb) ws.length) 1), Value.bool ((cgK v ws (pc, pb) ws.length) 2), Value.bool ((cgK v ws (pc, pb) ws.length) 3), Value.bool ((cgK v ws (pc, pb) ws.length) 4), Value.bool ((cgK v ws (pc, pb) ws.length) 5), Value.bool ((cgK v ws (pc, pb) ws.length) 6), Value.bool ((cgK v ws (pc, pb) ws.length) 7)]) (.int .i64 0)).run Try.prog w = .ok (.bool (cgK v ws (pc, pb) ws.length 0)) w := fun w => idx0_run _ _ _ _ _ _ _ _ w
  have HN : Hid (noneB v ws (pc, pb) = cgK v ws (pc, pb) ws.length 0) := rfl
  obtain ⟨_, p0, p1⟩ := PBox.new w (pc : Int) (pb : Int) 52
  clear hi hr hm hv B1 q0 q1
  go_enter Try.func90, Try.ntmps90
  go_wp2_with fail
  refine (commonGroups_any v b ws capb pc pb _ HV.out I1.out hl HR.out HM.out).mono ?_
  rintro e w1 ⟨rfl, h1⟩
  go_wp2
  go_ret
  exact ⟨ret_bool HN.out.symm, bnext HB.out h1⟩
theorem doMeet1_was (v : Int) (b : Option Addr) (ws : List Int) (capb pc pb g : Nat) (r : Bool) (w : World) (hv : 1 ≤ v ∧ v ≤ 3) (hi : Ints w b ws) (hl : ws.length ≤ 4) (hr : ∀ x ∈ ws, 0 ≤ x ∧ x ≤ 255) (hm : pc < 16 ∧ pb < 16) (q0 : w.cell? ⟨g, 0, none⟩ = some (.int .i64 v)) (q1 : w.cell? ⟨g, 1, none⟩ = some (.slice b ws.length capb)) (h : noneB v ws (pc, pb) = r) :
    Calls Try.prog 90 #[.agg #[.int .i64 (pc : Int), .int .i64 (pb : Int)], .pointer (some ⟨g, 0, none⟩)] w fun e w' => e = .returned (.bool r) ∧ Below w.heap.size w w' := by
  subst h
  exact doMeet1_any v b ws capb pc pb g w hv hi hl hr hm q0 q1
def IdxMPost (v : Int) (ws : List Int) (L : List (Nat × Nat)) (w : World) (e : Ending) (w' : World) : Prop :=
  ∃ r : Int, ((L.any (noneB v ws) = true ∧ 0 ≤ r) ∨ (L.any (noneB v ws) = false ∧ r = -1)) ∧ r ≤ 1048576 ∧ e = .returned (.int .i64 r) ∧ Below w.heap.size w w'
set_option maxHeartbeats 1000000 in
theorem indexFuncM_any (v : Int) (b : Option Addr) (ws : List Int) (capb g : Nat) (a : Option Addr) (cap : Nat) (L : List (Nat × Nat)) (w : World) (hp : PInts w a (ofP L)) (hn : L.length ≤ 1048576) (h16 : ∀ p ∈ L, p.1 < 16 ∧ p.2 < 16)
    (hv : 1 ≤ v ∧ v ≤ 3) (hi : Ints w b ws) (hl : ws.length ≤ 4) (hr : ∀ x ∈ ws, 0 ≤ x ∧ x ≤ 255) (q0 : w.cell? ⟨g, 0, none⟩ = some (.int .i64 v)) (q1 : w.cell? ⟨g, 1, none⟩ = some (.slice b ws.length capb)) :
    Calls Try.prog 124 #[.slice a L.length cap, .func (.func 90) #[] #[.pointer (some ⟨g, 0, none⟩)]] w (IdxMPost v ws L w) := by
  have hglt := World.block_lt_of_cell? w ⟨g, 0, none⟩ q0
  have HV := hide hv
  have HI := hide hi
  have HR := hide hr
  have HP := hide hp
  have H16 := hide h16
  have Q0 := hide q0
  have Q1 := hide q1
  have HLL := hide (ofP_len L)
  clear hv hi hr hp h16 q0 q1
  go_enter Try.func124, Try.ntmps124
  go_wp2_with fail
  go_loopw [8] (fun i wr => ∃ k : Nat, k ≤ L.length ∧ i = .int .i64 k ∧ Hid (∀ j (hj : j < L.length), j < k → noneB v ws L[j] = false) ∧ Below w.heap.size w wr) (fun i _ => L.length - (intOf i).toNat)
  case atStart => exact ⟨0, Nat.zero_le _, rfl, fun j hj h => by omega, Below.refl _ _⟩
  case round =>
    obtain ⟨k, hk, rfl, HA, hb⟩ := hrel
    have HB := hide hb
    by_cases hlt : k < L.length
    · obtain ⟨bb, off, rfl, hbl, hc⟩ := (HP.out.below hb) (by rw [HLL.out]; omega)
      obtain ⟨h1, h2⟩ := hc k (by rw [HLL.out]; omega)
      obtain ⟨pc, hpc⟩ : ∃ pc, pc = L[k].1 := ⟨_, rfl⟩
      obtain ⟨pb, hpb⟩ : ∃ pb, pb = L[k].2 := ⟨_, rfl⟩
      have hm' : L[k] = (pc, pb) := by rw [hpc, hpb]
      have hm := H16.out L[k] (List.getElem_mem hlt)
      rw [ofP_at hlt, hm'] at h1 h2
      rw [hm'] at hm
      have s0 := hide ((hb.cell (p := ⟨g, 0, none⟩) hglt).trans Q0.out)
      have s1 := hide ((hb.cell (p := ⟨g, 1, none⟩) hglt).trans Q1.out)
      have I1 := hide (HI.out.below hb)
      have HM := hide hm
      obtain ⟨r, hr⟩ : ∃ r, noneB v ws (pc, pb) = r := ⟨_, rfl⟩
      have HRR := hide hr
      have FND : Hid (r = true → L.any (noneB v ws) = true) := fun e => List.any_eq_true.2 ⟨L[k], List.getElem_mem hlt, by rw [hm', hr, e]⟩
      have NXT : Hid (r = false → ∀ j (hj : j < L.length), j < k + 1 → noneB v ws L[j] = false) := fun e j hj h => by
        rcases Nat.lt_or_ge j k with h3 | h3
        · exact HA.out j hj h3
        · obtain rfl : j = k := by omega
          rw [hm', hr, e]
      clear hc hpc hpb hm' hm hr hb HA
      cases r with
      | true =>
        go_wp2_with fail
        refine (doMeet1_was v b ws capb pc pb g true _ HV.out I1.out hl HR.out HM.out s0.out s1.out HRR.out).mono ?_
        rintro e w1 ⟨rfl, h1'⟩
        go_wp2
        go_ret
        exact ⟨k, .inl ⟨FND.out trivial, by omega⟩, by omega, rfl, bnext HB.out h1'⟩
      | false =>
        go_wp2_with fail
        refine (doMeet1_was v b ws capb pc pb g false _ HV.out I1.out hl HR.out HM.out s0.out s1.out HRR.out).mono ?_
        rintro e w1 ⟨rfl, h1'⟩
        go_wp2
        go_roundw
        case rel => exact ⟨k + 1, by omega, by go_num, NXT.out trivial, bnext HB.out h1'⟩
        case measure => simp only [intOf]; omega
    · obtain rfl : k = L.length := by omega
      go_wp2
      go_ret
      exact ⟨-1, .inr ⟨by
        rw [List.any_eq_false]
        intro x hx
        obtain ⟨j, hj, rfl⟩ := List.getElem_of_mem hx
        rw [HA.out j hj hj]
        decide, rfl⟩, by omega, rfl, HB.out⟩
theorem containsFuncM_any (v : Int) (b : Option Addr) (ws : List Int) (capb g : Nat) (a : Option Addr) (cap : Nat) (L : List (Nat × Nat)) (r : Bool) (w : World) (hp : PInts w a (ofP L)) (hn : L.length ≤ 1048576) (h16 : ∀ p ∈ L, p.1 < 16 ∧ p.2 < 16)
    (hv : 1 ≤ v ∧ v ≤ 3) (hi : Ints w b ws) (hl : ws.length ≤ 4) (hr : ∀ x ∈ ws, 0 ≤ x ∧ x ≤ 255) (q0 : w.cell? ⟨g, 0, none⟩ = some (.int .i64 v)) (q1 : w.cell? ⟨g, 1, none⟩ = some (.slice b ws.length capb)) (hf : L.any (noneB v ws) = r) :
    Calls Try.prog 89 #[.slice a L.length cap, .func (.func 90) #[] #[.pointer (some ⟨g, 0, none⟩)]] w fun e w' => e = .returned (.bool r) ∧ Below w.heap.size w w' := by
  have HF := hide hf
  clear hf
  go_enter Try.func89, Try.ntmps89
  go_wp2_with fail
  refine (indexFuncM_any v b ws capb g a cap L _ hp hn h16 hv hi hl hr q0 q1).mono ?_
  rintro e w' ⟨i, hi', hr2, rfl, hb⟩
  cases r with
  | true =>
    have h0 : 0 ≤ i := by
      rcases hi' with ⟨_, h⟩ | ⟨h, _⟩
      · exact h
      · rw [HF.out] at h; cases h
    clear hi'
    go_wp2
    go_ret
    exact ⟨rfl, hb⟩
  | false =>
    have h0 : i < 0 := by
      rcases hi' with ⟨h, _⟩ | ⟨_, h⟩
      · rw [HF.out] at h; cases h
      · omega
    clear hi'
    go_wp2
    go_ret
    exact ⟨ret_bool (by simp; omega), hb⟩
end Go.Proofs.Ytklgganapphioaa
