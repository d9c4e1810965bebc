/- The clearest issues first: insertion by a test, in the library's sort of few numbers and in the program. -/
import Derived.Test.YtccemllgglfgkaaOrd
import Derived.Test.YtccemllgglfgkaaSup
import Derived.Deep.QuietTactic
import Derived.BigQuiet
import Derived.RegionTactic
import Derived.BigRegion
namespace Go.Proofs.Ytccemllgglfgkaa
open Go.RowKit Go.Joins

theorem quiet_add {P : Program} {f : FuncId} {args : Array Value} {w : World} {n : Nat} {v : Value}
    (h : Calls P f args (w.drewN n) fun e w'' => e = .returned v ∧ ∃ m, w'' = (w.drewN n).drewN m) : Calls P f args (w.drewN n) fun e w'' => e = .returned v ∧ ∃ m, w'' = w.drewN m :=
  h.mono fun _ _ ⟨he, m, hm⟩ => ⟨he, n + m, by rw [hm, World.drewN_drewN]⟩

theorem rset (w : World) (R i : Nat) (v : Value) : w.grownBy (w.setCell ⟨R, i, none⟩ v) (some R) :=
  ⟨rfl, rfl, rfl, by show w.heap.size ≤ (w.heap.modify _ _).size; rw [Array.size_modify]; exact Nat.le_refl _, fun _ _ hk => Below.heap_setCell _ _ _ _ (fun e => hk (by rw [e]))⟩
theorem rdrewN {w w' : World} {row : Option Nat} (h : w.grownBy w' row) (n : Nat) : w.grownBy (w'.drewN n) row := ⟨h.os, h.tape, h.output, h.size, h.block⟩
theorem rdrew {w w' : World} {row : Option Nat} (h : w.grownBy w' row) : w.grownBy w'.drew row := ⟨h.os, h.tape, h.output, h.size, h.block⟩
theorem rrefl (w : World) (R : Nat) : w.grownBy w (some R) := ⟨rfl, rfl, rfl, Nat.le_refl _, fun _ _ _ => rfl⟩
theorem mem_swap {l u : List Int} {i j : Nat} (h : ∀ z ∈ u, z ∈ l) (hi : i < u.length) (hj : j < u.length) : ∀ z ∈ (u.set i (u.getD j 0)).set j (u.getD i 0), z ∈ l := by
  intro z hz
  rw [getD_lt hi, getD_lt hj] at hz
  rcases List.mem_or_eq_of_mem_set hz with h1 | h1
  · rcases List.mem_or_eq_of_mem_set h1 with h2 | h2
    · exact h z h2
    · rw [h2]; exact h _ (List.getElem_mem hj)
  · rw [h1]; exact h _ (List.getElem_mem hi)

/-- one number goes to its place, from place j down -/
def insIn (f : Int → Int) (l : List Int) : Nat → List Int
  | 0 => l
  | j + 1 => if f (l.getD j 0) < f (l.getD (j + 1) 0) then insIn f ((l.set (j + 1) (l.getD j 0)).set j (l.getD (j + 1) 0)) j else l
def insK (f : Int → Int) (l : List Int) : Nat → List Int
  | 0 => l
  | i + 1 => insIn f (insK f l i) (i + 1)
theorem insIn_len (f : Int → Int) : ∀ (j : Nat) (l : List Int), (insIn f l j).length = l.length
  | 0, l => rfl
  | j + 1, l => by
    unfold insIn
    split
    · rw [insIn_len f j]; simp
    · rfl
theorem insK_len (f : Int → Int) (l : List Int) : ∀ i, (insK f l i).length = l.length
  | 0 => rfl
  | i + 1 => by rw [insK, insIn_len, insK_len f l i]

theorem cells_set (l : List Int) (k : Nat) (v : Int) : (l.map (Value.int .i64)).toArray.setIfInBounds k (.int .i64 v) = ((l.set k v).map (Value.int .i64)).toArray := by
  simp [List.setIfInBounds_toArray, List.map_set]
theorem cells_at (l : List Int) {j : Nat} (h : j < l.length) : (l.map (Value.int .i64)).toArray[j]? = some (.int .i64 (l.getD j 0)) := by
  simp [h, List.getD_eq_getElem?_getD]

set_option maxHeartbeats 8000000 in
set_option maxRecDepth 100000 in
theorem insertion_any (f : Int → Int) (g cap B : Nat) (l : List Int) (w : World) (hb : w.heap[g]? = some (.cells (l.map (Value.int .i64)).toArray 3 (0, 0))) (hl : l.length ≤ 4) (hpos : 0 < l.length)
    (hf : ∀ (x y : Int) (w' : World), x ∈ l → y ∈ l → w.grownBy w' (some g) → Calls Try.prog 127 #[.int .i64 x, .int .i64 y, .pointer (some ⟨B, 0, none⟩)] w' fun e w'' => e = .returned (.int .i64 (f y - f x)) ∧ ∃ m, w'' = w'.drewN m)
    (hbd : ∀ x ∈ l, 0 ≤ f x ∧ f x ≤ 16) :
    Calls Try.prog 157 #[.slice (some ⟨g, 0, none⟩) l.length cap, .int .i64 0, .int .i64 (l.length : Nat), .func (.func 127) #[] #[.pointer (some ⟨B, 0, none⟩)]] w
      fun e w' => e = .returned (.tuple #[]) ∧ w'.heap[g]? = some (.cells ((insK f l (l.length - 1)).map (Value.int .i64)).toArray 3 (0, 0)) ∧ w.grownBy w' (some g) := by
  have HF := hide hf
  have HBD := hide hbd
  clear hf hbd
  go_enter Try.func157, Try.ntmps157
  go_wp2_with fail
  go_loopw [8] (fun x wr => ∃ i : Nat, i + 1 ≤ l.length ∧ x = .int .i64 ((i + 1 : Nat) : Int) ∧ ∃ t : List Int, t = insK f l i ∧ t.length = l.length ∧ (∀ z ∈ t, z ∈ l) ∧ wr.heap[g]? = some (.cells (t.map (Value.int .i64)).toArray 3 (0, 0)) ∧ w.grownBy wr (some g)) (fun x _ => l.length + 1 - (intOf x).toNat)
  case atStart => exact ⟨0, by omega, rfl, l, rfl, rfl, fun z hz => hz, hb, rrefl _ _⟩
  case round =>
    obtain ⟨i, hi, rfl, t, ht, htl, hts, hblk, hg⟩ := hrel
    by_cases hlt : i + 1 < l.length
    · have HT : Hid (insIn f t (i + 1) = insK f l (i + 1)) := by rw [ht]; rfl
      clear ht
      go_wp2
      go_loopw [9] (fun y wq => ∃ (j : Nat) (u : List Int), j ≤ i + 1 ∧ y = .int .i64 (j : Int) ∧ insIn f u j = insK f l (i + 1) ∧ u.length = l.length ∧ (∀ z ∈ u, z ∈ l) ∧ wq.heap[g]? = some (.cells (u.map (Value.int .i64)).toArray 3 (0, 0)) ∧ w.grownBy wq (some g)) (fun y _ => (intOf y).toNat)
      case atStart => exact ⟨i + 1, t, Nat.le_refl _, rfl, HT.out, htl, hts, hblk, hg⟩
      case round =>
        clear hts hblk hg
        obtain ⟨j, u, hj, rfl, hu, hul, hus, hblk, hg⟩ := hrel
        have HU := hide hu
        have HG := hide hg
        have HB := hide hblk
        have HUS := hide hus
        clear hu hg
        cases j with
        | zero =>
          go_wp2
          go_quiet (fail)
          go_wp2
          go_roundw
          case rel => exact ⟨i + 1, by omega, by go_num, u, HU.out, hul, hus, HB.out, rdrewN HG.out _⟩
          case measure => simp only [intOf]; omega
        | succ j =>
          have ca := (cell_of_block hblk (j + 1)).trans (cells_at u (by omega))
          have cb := (cell_of_block hblk j).trans (cells_at u (by omega))
          have fa := unfrozen_of_block hblk (j + 1)
          have fb := unfrozen_of_block hblk j
          have hXm : u.getD (j + 1) 0 ∈ l := by rw [getD_lt (by omega)]; exact hus _ (List.getElem_mem _)
          have hYm : u.getD j 0 ∈ l := by rw [getD_lt (by omega)]; exact hus _ (List.getElem_mem _)
          have bX := HBD.out _ hXm
          have bY := HBD.out _ hYm
          have HCMP := hide (fun (w' : World) (hgw : w.grownBy w' (some g)) => HF.out (u.getD (j + 1) 0) (u.getD j 0) w' hXm hYm hgw)
          have HSW := hide (mem_swap (i := j + 1) (j := j) hus (by omega) (by omega))
          have hcl1 := cells_set u (j + 1) (u.getD j 0)
          have hcl2 := cells_set (u.set (j + 1) (u.getD j 0)) j (u.getD (j + 1) 0)
          have hin : insIn f u (j + 1) = if f (u.getD j 0) < f (u.getD (j + 1) 0) then insIn f ((u.set (j + 1) (u.getD j 0)).set j (u.getD (j + 1) 0)) j else u := rfl
          have hsl : ((u.set (j + 1) (u.getD j 0)).set j (u.getD (j + 1) 0)).length = l.length := by simp [hul]
          have hwj : IntKind.i64.wrap ((j : Nat) : Int) = (j : Int) := IntWalk.i64_in _ (by omega)
          obtain ⟨X, hX⟩ : ∃ X, u.getD (j + 1) 0 = X := ⟨_, rfl⟩
          obtain ⟨Y, hY⟩ : ∃ Y, u.getD j 0 = Y := ⟨_, rfl⟩
          rw [hX] at ca bX HCMP HSW hcl2 hin hsl
          rw [hY] at cb bY HCMP HSW hcl1 hcl2 hin hsl
          have HC1 := hide hcl1
          have HC2 := hide hcl2
          have HIN := hide hin
          have HSL := hide hsl
          clear hcl1 hcl2 hin hX hY hXm hYm hus hblk hsl
          obtain ⟨D, hD⟩ : ∃ D, f Y - f X = D := ⟨_, rfl⟩
          rw [hD] at HCMP
          by_cases hc : f Y < f X
          · have hDn : D < 0 := by omega
            have HU2 : Hid (insIn f ((u.set (j + 1) Y).set j X) j = insK f l (i + 1)) := by
              have h := HU.out
              rw [HIN.out, if_pos hc] at h
              exact h
            clear hc hD bX bY
            go_wp2
            go_quiet ((go_at_call 127; exact quiet_add (HCMP.out _ (rdrewN HG.out _))))
            go_wp2
            go_region
            all_goals go_wp2
            all_goals
              go_roundw
              case rel => exact ⟨j, (u.set (j + 1) Y).set j X, by omega, by go_num, HU2.out, HSL.out, HSW.out, by
                rw [← HC2.out, ← HC1.out]
                exact block_setCell (i := j) (block_setCell (i := j + 1) HB.out _) _, gtrans (gtrans (rdrewN HG.out _) (rset _ g (j + 1) _)) (rset _ g j _)⟩
              case measure => simp only [intOf]; omega
          · have hDn : ¬ D < 0 := by omega
            have HU2 : Hid (u = insK f l (i + 1)) := by
              have h := HU.out
              rw [HIN.out, if_neg hc] at h
              exact h
            clear hc hD bX bY
            go_wp2
            go_quiet ((go_at_call 127; exact quiet_add (HCMP.out _ (rdrewN HG.out _))))
            go_wp2
            go_roundw
            case rel => exact ⟨i + 1, by omega, by go_num, insK f l (i + 1), rfl, by rw [insK_len], by
              rw [← HU2.out]
              exact HUS.out, by rw [← HU2.out]; exact HB.out, rdrewN HG.out _⟩
            case measure => simp only [intOf]; omega
    · have e : l.length - 1 = i := by omega
      have hg' := hide hg
      rw [ht] at hblk
      have HB := hide hblk
      clear hblk ht hts htl hg
      go_wp2
      go_end0
      exact ⟨rfl, by rw [e]; exact HB.out, hg'.out⟩

/-- how far a support is from half of the votes -/
def leadV (n : Int) (ss : List Int) (j : Int) : Int := max (2 * ss.getD j.toNat 0 - n) (n - 2 * ss.getD j.toNat 0)
set_option maxHeartbeats 2000000 in
theorem lead_any (n : Int) (ss : List Int) (a : Option Addr) (cap B2 B3 j : Nat) (w : World) (hj : j < ss.length) (hn : 0 ≤ n ∧ n ≤ 5) (hs : ∀ x ∈ ss, 0 ≤ x ∧ x ≤ 5) (hi : Ints w a ss) (h2 : w.cell? ⟨B2, 0, none⟩ = some (.slice a ss.length cap)) (h3 : w.cell? ⟨B3, 0, none⟩ = some (.int .i64 n)) :
    Calls Try.prog 125 #[.int .i64 (j : Int), .pointer (some ⟨B2, 0, none⟩), .pointer (some ⟨B3, 0, none⟩)] w fun e w' => e = .returned (.int .i64 (leadV n ss (j : Int))) ∧ ∃ m, w' = w.drewN m := by
  obtain ⟨b, off, rfl, hb, hc⟩ := hi (by omega)
  have hck := hc j hj
  have hs1 := hs _ (mem_of_at hj)
  rw [getD_lt hj] at hck
  have HL : Hid (leadV n ss (j : Int) = max (2 * ss[j] - n) (n - 2 * ss[j])) := by unfold Hid leadV; rw [Int.toNat_natCast, getD_lt hj]
  obtain ⟨s, hs'⟩ : ∃ s, ss[j] = s := ⟨_, rfl⟩
  rw [hs'] at hck hs1 HL
  have w1 : IntKind.i64.wrap (2 * s) = 2 * s := IntWalk.i64_in _ (by omega)
  have w2 : IntKind.i64.wrap (2 * s - n) = 2 * s - n := IntWalk.i64_in _ (by omega)
  have w3 : IntKind.i64.wrap (n - 2 * s) = n - 2 * s := IntWalk.i64_in _ (by omega)
  clear hc hs hs' hi
  by_cases hm : 2 * s - n < n - 2 * s
  · go_enter Try.func125, Try.ntmps125
    go_wp2
    go_quiet (fail)
    go_wp2
    go_ret
    exact ⟨ret_int (by rw [HL.out]), ⟨_, rfl⟩⟩
  · go_enter Try.func125, Try.ntmps125
    go_wp2
    go_quiet (fail)
    go_wp2
    go_ret
    exact ⟨ret_int (by rw [HL.out]), ⟨_, rfl⟩⟩
end Go.Proofs.Ytccemllgglfgkaa
