/- The draw of rules: the families that the model makes. -/
import Derived.Test.YtnmfhnieknckcaaDrawT
import Derived.Test.YtnmfhnieknckcaaTabB
namespace Go.Proofs.Ytnmfhnieknckcaa
open Go.RowKit Go.Joins

/-- the groups with the first of v voters, as a sum -/
def dictW (v : Int) : Nat := if v = 1 then 2 else if v = 2 then 10 else 170
theorem dict_mono {v : Int} (hv : v = 1 ∨ v = 2 ∨ v = 3) : MonoS v [(dictW v : Int)] ∧ UnanS v [(dictW v : Int)] ∧ (dictW v : Int) < pw (pw v) := by
  have h13 : 1 ≤ v ∧ v ≤ 3 := by omega
  have hone : ∀ {P : Int → Prop}, P (dictW v : Int) → ∀ j, j < [(dictW v : Int)].length → P ([(dictW v : Int)].getD j 0) := by
    intro P h j hj
    have : j = 0 := by simpa using hj
    subst this; exact h
  refine ⟨?_, ?_, ?_⟩
  · intro j hj
    refine hone (P := fun x => ∀ g : Nat, (g : Int) < pw v → ∀ i : Nat, (i : Int) < v → badStep x.toNat g i = false) ?_ j hj
    rw [Int.toNat_natCast]
    refine (monoC_iff h13 _).1 ?_
    rcases hv with rfl | rfl | rfl <;> decide +kernel
  · intro j hj
    refine hone (P := fun x => badUnan v x.toNat = false) ?_ j hj
    rcases hv with rfl | rfl | rfl <;> decide +kernel
  · rcases hv with rfl | rfl | rfl <;> decide +kernel
theorem one_range {k : Nat} (h : k < 256) : ∀ x ∈ [(k : Int)], 0 ≤ x ∧ x ≤ 255 := fun x hx => by
  rw [List.mem_singleton] at hx; omega
theorem mono1_any (v : Int) (b : Option Addr) (x : Nat) (w : World) (hv : 1 ≤ v ∧ v ≤ 3) (hx : x < 256) (hj : Ints w b [(x : Int)]) :
    Calls Try.prog 135 #[.agg #[.int .i64 v, .slice b 1 1]] w (MonoPost v [(x : Int)] w) :=
  monotone_any v b [(x : Int)] 1 w hv (one_range hx) hj (by simp)
theorem unan1_any (v : Int) (b : Option Addr) (x : Nat) (w : World) (hv : 1 ≤ v ∧ v ≤ 3) (hx : x < 256) (hj : Ints w b [(x : Int)]) :
    Calls Try.prog 136 #[.agg #[.int .i64 v, .slice b 1 1]] w (UnanPost v [(x : Int)] w) :=
  unanimous_any v b [(x : Int)] 1 w hv (one_range hx) hj (by simp)
theorem litone (w : World) (a : Int) : Ints (w.alloc (.cells #[.int .i64 a] 3)) (some ⟨w.heap.size, 0, none⟩) [a] := fun _ =>
  ⟨w.heap.size, 0, rfl, by simp, fun k hk => by
    match k, hk with
    | 0, _ => simp [go_sem]⟩
/-- What the families leave. -/
def FamPost (w : World) (e : Ending) (w' : World) : Prop :=
  ∃ (v : Value) (ls : List Int), e = .returned v ∧ Owns w' w.heap.size v ls ∧ Below w.heap.size w w' ∧ (0 < ls.length ∧ ls.length ≤ 256) ∧ ∀ z ∈ ls, 0 ≤ z ∧ z ≤ 255
/-- the families under way -/
def FamI (v : Int) (k : Nat) (ls : List Int) : Prop := ls.length ≤ k ∧ (∀ z ∈ ls, 0 ≤ z ∧ z ≤ 255) ∧ (dictW v < k → 0 < ls.length)
theorem FamI.no {v : Int} {k : Nat} {ls : List Int} (h : FamI v k ls) (hk : k ≠ dictW v) : FamI v (k + 1) ls := ⟨by have := h.1; omega, h.2.1, fun hh => h.2.2 (by omega)⟩
theorem FamI.yes {v : Int} {k : Nat} {ls : List Int} (h : FamI v k ls) (hk : k < 256) : FamI v (k + 1) (ls ++ [(k : Int)]) :=
  ⟨by have := h.1; simp; omega, fun z hz => by
    rcases List.mem_append.1 hz with h1 | h1
    · exact h.2.1 z h1
    · rw [List.mem_singleton] at h1; omega, fun _ => by simp⟩
set_option maxHeartbeats 2000000 in
set_option maxRecDepth 100000 in
theorem families_any (v : Int) (w : World) (hv : v = 1 ∨ v = 2 ∨ v = 3) : Calls Try.prog 126 #[.int .i64 v] w (FamPost w) := by
  obtain ⟨i0, hi0, hz0, hz1, hz2⟩ := info_parts info_int
  obtain ⟨hD1, hD2, hD3⟩ := dict_mono hv
  have h13 : 1 ≤ v ∧ v ≤ 3 := by omega
  have p1 := pw_pos v
  have p2 := pw_le3 v h13.2
  have q1 := pw_pos (pw v)
  have q2 := pw_le8 (pw v) p2
  obtain ⟨v1, v3⟩ := h13
  have HM := hide hD1
  have HU := hide hD2
  have E0 := hide (Owns.empty w (Nat.le_refl _))
  have B0 := hide (bel1 w (.cells #[] 3))
  clear hD1 hD2 hv
  go_enter Try.func126, Try.ntmps126
  go_wp2
  go_loopw [3, 4] (fun o i wr => ∃ k : Nat, (k : Int) ≤ pw (pw v) ∧ i = .int .i64 k ∧ ∃ ls : List Int, Owns wr w.heap.size o ls ∧ FamI v k ls ∧ Below w.heap.size w wr) (fun _ i _ => 256 - (intOf i).toNat)
  case atStart => exact ⟨0, by omega, rfl, [], E0.out, ⟨by simp, (fun z hz => by cases hz), fun h => by omega⟩, B0.out⟩
  case round =>
    obtain ⟨k, hk, rfl, ls, hown, hfi, hB⟩ := hrel
    obtain ⟨oa, oc, rfl, _, _⟩ := hown.form
    by_cases hlt : (k : Int) < pw (pw v)
    · have hk256 : k < 256 := by omega
      have hl := litone wr (k : Int)
      have b1 := bel1 wr (.cells #[.int .i64 (k : Int)] 3)
      have b2 := bel1 (wr.alloc (.cells #[.int .i64 (k : Int)] 3)) (.cells #[.int .i64 v, .slice (some ⟨wr.heap.size, 0, none⟩) 1 1] 27)
      have hl2 := hide (hl.below b2)
      have B2 := hide (bnext b1 b2)
      have hbk := heap_alloc_new (wr.alloc (.cells #[.int .i64 (k : Int)] 3)) (.cells #[.int .i64 v, .slice (some ⟨wr.heap.size, 0, none⟩) 1 1] 27)
      simp only [World.size_alloc] at hbk
      have HBK := hide hbk
      have HO := hide hown
      have HF := hide hfi
      have HB := hide hB
      clear hl b1 b2 hbk hown hfi hB
      go_wp2_with (go_at_call 64; refine (powerL_any _ _ (by omega) (by omega)).mono ?_; rintro e w' ⟨rfl, rfl⟩)
      refine (mono1_any v _ k _ ⟨v1, v3⟩ hk256 hl2.out).mono ?_
      rintro e w1 ⟨r, hr, rfl, h1⟩
      have c0 := cell_of_block (blk_below HBK.out (by simpa only [World.size_alloc] using h1)) 0
      have c1 := cell_of_block (blk_below HBK.out (by simpa only [World.size_alloc] using h1)) 1
      have W1 := hide (bnext B2.out h1)
      have l1 := hl2.out.below h1
      have HR := hide hr
      clear hr h1
      cases r with
      | false =>
        go_wp2
        go_roundw
        case rel => exact ⟨k + 1, by omega, by go_num, ls, HO.out.below W1.out, HF.out.no (fun e => by have := HR.out; rw [e] at this; simpa using this.2 HM.out), bnext HB.out W1.out⟩
        case measure => simp only [intOf]; omega
      | true =>
        go_wp2_with fail
        refine (unan1_any v _ k _ ⟨v1, v3⟩ hk256 l1).mono ?_
        rintro e w2 ⟨r2, hr2, rfl, h2⟩
        have W2 := hide (bnext W1.out h2)
        have HR2 := hide hr2
        clear hr2 h2 c0 c1 l1
        cases r2 with
        | false =>
          go_wp2
          go_roundw
          case rel => exact ⟨k + 1, by omega, by go_num, ls, HO.out.below W2.out, HF.out.no (fun e => by have := HR2.out; rw [e] at this; simpa using this.2 HU.out), bnext HB.out W2.out⟩
          case measure => simp only [intOf]; omega
        | true =>
          have hown2 := HO.out.below W2.out
          have BB := hide (bnext HB.out W2.out)
          have hsz := (bnext HB.out W2.out).size
          have hle : ls.length ≤ 256 := by have := HF.out.1; omega
          go_wp2_with ((at_builtin; refine wpList_append_own _ rfl _ _ 23 rfl w.heap.size 3 i0 (.int .i64 0) 1 8 Try.underlying23 hi0 hz0 hz1 hz2 rfl (by decide) _ _ _ rfl (hown2.alloc _) ⟨w2.heap.size, 0, none⟩ 1 1 [.int .i64 (k : Int)] rfl rfl (cell_one_new w2 _ _) (by intro u hu; simp at hu; subst hu; rfl) (by unfold maxLen; omega) (by omega) (by first | omega | (simp; omega)) ?_))
          intro v' w5 hown' hgrow _
          have O5 := Owns.push hown'
          have hgb := hide (bgrown (bnext BB.out (bel1 w2 (.cells #[.int .i64 (k : Int)] 3))) hgrow (by simp; omega) (own_ge hown2))
          obtain ⟨qa, qc, rfl, _, _⟩ := O5.form
          have HO5 := hide O5
          clear hown2 hown' hgrow O5
          go_wp2
          go_roundw
          case rel => exact ⟨k + 1, by omega, by go_num, ls ++ [(k : Int)], HO5.out, HF.out.yes hk256, hgb.out⟩
          case measure => simp only [intOf]; omega
    · have HO := hide hown
      have HF := hide hfi
      have HB := hide hB
      clear hown hfi hB
      go_wp2_with (go_at_call 64; refine (powerL_any _ _ (by omega) (by omega)).mono ?_; rintro e w' ⟨rfl, rfl⟩)
      go_ret
      exact ⟨_, ls, rfl, HO.out, HB.out, ⟨HF.out.2.2 (by omega), by have := HF.out.1; omega⟩, HF.out.2.1⟩
end Go.Proofs.Ytnmfhnieknckcaa
