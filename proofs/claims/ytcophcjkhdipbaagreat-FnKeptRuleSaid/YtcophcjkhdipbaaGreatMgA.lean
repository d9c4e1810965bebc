/- Texts of this seat one behind the other: Rank, RankI, RankC, Turn, RankM, VotesW, TurnI, TurnS, RankR. Conditions: none. -/
import Derived.Test.YtcophcjkhdipbaaGreatOrd
import Derived.Test.YtcophcjkhdipbaaGreatSup
import Derived.Test.YtcophcjkhdipbaaGreatWant
import Derived.Test.YtcophcjkhdipbaaGreatOpen
import Derived.Test.YtcophcjkhdipbaaGreatVotes
import Derived.Deep.QuietTactic
import Derived.BigQuiet
import Derived.RegionTactic
import Derived.BigRegion
import Derived.Laws.EntriesVeiled
import Derived.Deep.RegionWith
import Derived.Deep.RegionHeld3
import Derived.Outline

/- Rank: The clearest issues first: insertion by a test, in the library's sort of few numbers and in the program. -/
namespace Go.Proofs.YtcophcjkhdipbaaGreat
open Go.RowKit Go.Joins

theorem quiet_add {P : Program} {f : FuncId} {args : Array Value} {w : World} {n : Nat} {v : Value}
    (h : Calls P f args (w.drewN n) fun e w'' => e = .returned v ∧ ∃ m, w'' = (w.drewN n).drewN m) : Calls P f args (w.drewN n) fun e w'' => e = .returned v ∧ ∃ m, w'' = w.drewN m :=
  h.mono fun _ _ ⟨he, m, hm⟩ => ⟨he, n + m, by rw [hm, World.drewN_drewN]⟩

theorem rset (w : World) (R i : Nat) (v : Value) : w.grownBy (w.setCell ⟨R, i, none⟩ v) (some R) :=
  ⟨rfl, rfl, rfl, by show w.heap.size ≤ (w.heap.modify _ _).size; rw [Array.size_modify]; exact Nat.le_refl _, fun _ _ hk => Below.heap_setCell _ _ _ _ (fun e => hk (by rw [e]))⟩
theorem rdrewN {w w' : World} {row : Option Nat} (h : w.grownBy w' row) (n : Nat) : w.grownBy (w'.drewN n) row := ⟨h.os, h.tape, h.output, h.size, h.block⟩
theorem rdrew {w w' : World} {row : Option Nat} (h : w.grownBy w' row) : w.grownBy w'.drew row := ⟨h.os, h.tape, h.output, h.size, h.block⟩
theorem rrefl (w : World) (R : Nat) : w.grownBy w (some R) := ⟨rfl, rfl, rfl, Nat.le_refl _, fun _ _ _ => rfl⟩
theorem mem_swap {l u : List Int} {i j : Nat} (h : ∀ z ∈ u, z ∈ l) (hi : i < u.length) (hj : j < u.length) : ∀ z ∈ (u.set i (u.getD j 0)).set j (u.getD i 0), z ∈ l := by
  intro z hz
  rw [getD_lt hi, getD_lt hj] at hz
  rcases List.mem_or_eq_of_mem_set hz with h1 | h1
  · rcases List.mem_or_eq_of_mem_set h1 with h2 | h2
    · exact h z h2
    · rw [h2]; exact h _ (List.getElem_mem hj)
  · rw [h1]; exact h _ (List.getElem_mem hi)

/-- one number goes to its place, from place j down -/
def insIn (f : Int → Int) (l : List Int) : Nat → List Int
  | 0 => l
  | j + 1 => if f (l.getD j 0) < f (l.getD (j + 1) 0) then insIn f ((l.set (j + 1) (l.getD j 0)).set j (l.getD (j + 1) 0)) j else l
def insK (f : Int → Int) (l : List Int) : Nat → List Int
  | 0 => l
  | i + 1 => insIn f (insK f l i) (i + 1)
theorem insIn_len (f : Int → Int) : ∀ (j : Nat) (l : List Int), (insIn f l j).length = l.length
  | 0, l => rfl
  | j + 1, l => by
    unfold insIn
    split
    · rw [insIn_len f j]; simp
    · rfl
theorem insK_len (f : Int → Int) (l : List Int) : ∀ i, (insK f l i).length = l.length
  | 0 => rfl
  | i + 1 => by rw [insK, insIn_len, insK_len f l i]

theorem cells_set (l : List Int) (k : Nat) (v : Int) : (l.map (Value.int .i64)).toArray.setIfInBounds k (.int .i64 v) = ((l.set k v).map (Value.int .i64)).toArray := by
  simp [List.setIfInBounds_toArray, List.map_set]
theorem cells_at (l : List Int) {j : Nat} (h : j < l.length) : (l.map (Value.int .i64)).toArray[j]? = some (.int .i64 (l.getD j 0)) := by
  simp [h, List.getD_eq_getElem?_getD]

set_option maxHeartbeats 8000000 in
set_option maxRecDepth 100000 in
theorem insertion_any (f : Int → Int) (g cap B : Nat) (l : List Int) (w : World) (hb : w.heap[g]? = some (.cells (l.map (Value.int .i64)).toArray 3 (0, 0))) (hl : l.length ≤ 4) (hpos : 0 < l.length)
    (hf : ∀ (x y : Int) (w' : World), x ∈ l → y ∈ l → w.grownBy w' (some g) → Calls Tryz.prog 53 #[.int .i64 x, .int .i64 y, .pointer (some ⟨B, 0, none⟩)] w' fun e w'' => e = .returned (.int .i64 (f y - f x)) ∧ ∃ m, w'' = w'.drewN m)
    (hbd : ∀ x ∈ l, 0 ≤ f x ∧ f x ≤ 16) :
    Calls Tryz.prog 77 #[.slice (some ⟨g, 0, none⟩) l.length cap, .int .i64 0, .int .i64 (l.length : Nat), .func (.func 53) #[] #[.pointer (some ⟨B, 0, none⟩)]] w
      fun e w' => e = .returned (.tuple #[]) ∧ w'.heap[g]? = some (.cells ((insK f l (l.length - 1)).map (Value.int .i64)).toArray 3 (0, 0)) ∧ w.grownBy w' (some g) := by
  have HF := hide hf
  have HBD := hide hbd
  clear hf hbd
  go_enter Tryz.func77, Tryz.ntmps77
  go_wp2_with fail
  go_loopw [8] (fun x wr => ∃ i : Nat, i + 1 ≤ l.length ∧ x = .int .i64 ((i + 1 : Nat) : Int) ∧ ∃ t : List Int, t = insK f l i ∧ t.length = l.length ∧ (∀ z ∈ t, z ∈ l) ∧ wr.heap[g]? = some (.cells (t.map (Value.int .i64)).toArray 3 (0, 0)) ∧ w.grownBy wr (some g)) (fun x _ => l.length + 1 - (intOf x).toNat)
  case atStart => exact ⟨0, by omega, rfl, l, rfl, rfl, fun z hz => hz, hb, rrefl _ _⟩
  case round =>
    obtain ⟨i, hi, rfl, t, ht, htl, hts, hblk, hg⟩ := hrel
    by_cases hlt : i + 1 < l.length
    · have HT : Hid (insIn f t (i + 1) = insK f l (i + 1)) := by rw [ht]; rfl
      clear ht
      go_wp2
      go_loopw [9] (fun y wq => ∃ (j : Nat) (u : List Int), j ≤ i + 1 ∧ y = .int .i64 (j : Int) ∧ insIn f u j = insK f l (i + 1) ∧ u.length = l.length ∧ (∀ z ∈ u, z ∈ l) ∧ wq.heap[g]? = some (.cells (u.map (Value.int .i64)).toArray 3 (0, 0)) ∧ w.grownBy wq (some g)) (fun y _ => (intOf y).toNat)
      case atStart => exact ⟨i + 1, t, Nat.le_refl _, rfl, HT.out, htl, hts, hblk, hg⟩
      case round =>
        clear hts hblk hg
        obtain ⟨j, u, hj, rfl, hu, hul, hus, hblk, hg⟩ := hrel
        have HU := hide hu
        have HG := hide hg
        have HB := hide hblk
        have HUS := hide hus
        clear hu hg
        cases j with
        | zero =>
          go_wp2
          go_quiet (fail)
          go_wp2
          go_roundw
          case rel => exact ⟨i + 1, by omega, by go_num, u, HU.out, hul, hus, HB.out, rdrewN HG.out _⟩
          case measure => simp only [intOf]; omega
        | succ j =>
          have ca := (cell_of_block hblk (j + 1)).trans (cells_at u (by omega))
          have cb := (cell_of_block hblk j).trans (cells_at u (by omega))
          have fa := unfrozen_of_block hblk (j + 1)
          have fb := unfrozen_of_block hblk j
          have hXm : u.getD (j + 1) 0 ∈ l := by rw [getD_lt (by omega)]; exact hus _ (List.getElem_mem _)
          have hYm : u.getD j 0 ∈ l := by rw [getD_lt (by omega)]; exact hus _ (List.getElem_mem _)
          have bX := HBD.out _ hXm
          have bY := HBD.out _ hYm
          have HCMP := hide (fun (w' : World) (hgw : w.grownBy w' (some g)) => HF.out (u.getD (j + 1) 0) (u.getD j 0) w' hXm hYm hgw)
          have HSW := hide (mem_swap (i := j + 1) (j := j) hus (by omega) (by omega))
          have hcl1 := cells_set u (j + 1) (u.getD j 0)
          have hcl2 := cells_set (u.set (j + 1) (u.getD j 0)) j (u.getD (j + 1) 0)
          have hin : insIn f u (j + 1) = if f (u.getD j 0) < f (u.getD (j + 1) 0) then insIn f ((u.set (j + 1) (u.getD j 0)).set j (u.getD (j + 1) 0)) j else u := rfl
          have hsl : ((u.set (j + 1) (u.getD j 0)).set j (u.getD (j + 1) 0)).length = l.length := by simp [hul]
          have hwj : IntKind.i64.wrap ((j : Nat) : Int) = (j : Int) := IntWalk.i64_in _ (by omega)
          obtain ⟨X, hX⟩ : ∃ X, u.getD (j + 1) 0 = X := ⟨_, rfl⟩
          obtain ⟨Y, hY⟩ : ∃ Y, u.getD j 0 = Y := ⟨_, rfl⟩
          rw [hX] at ca bX HCMP HSW hcl2 hin hsl
          rw [hY] at cb bY HCMP HSW hcl1 hcl2 hin hsl
          have HC1 := hide hcl1
          have HC2 := hide hcl2
          have HIN := hide hin
          have HSL := hide hsl
          clear hcl1 hcl2 hin hX hY hXm hYm hus hblk hsl
          obtain ⟨D, hD⟩ : ∃ D, f Y - f X = D := ⟨_, rfl⟩
          rw [hD] at HCMP
          by_cases hc : f Y < f X
          · have hDn : D < 0 := by omega
            have HU2 : Hid (insIn f ((u.set (j + 1) Y).set j X) j = insK f l (i + 1)) := by
              have h := HU.out
              rw [HIN.out, if_pos hc] at h
              exact h
            clear hc hD bX bY
            go_wp2
            go_quiet ((go_at_call 53; exact quiet_add (HCMP.out _ (rdrewN HG.out _))))
            go_wp2
            go_region
            all_goals go_wp2
            all_goals
              go_roundw
              case rel => exact ⟨j, (u.set (j + 1) Y).set j X, by omega, by go_num, HU2.out, HSL.out, HSW.out, by
                rw [← HC2.out, ← HC1.out]
                exact block_setCell (i := j) (block_setCell (i := j + 1) HB.out _) _, gtrans (gtrans (rdrewN HG.out _) (rset _ g (j + 1) _)) (rset _ g j _)⟩
              case measure => simp only [intOf]; omega
          · have hDn : ¬ D < 0 := by omega
            have HU2 : Hid (u = insK f l (i + 1)) := by
              have h := HU.out
              rw [HIN.out, if_neg hc] at h
              exact h
            clear hc hD bX bY
            go_wp2
            go_quiet ((go_at_call 53; exact quiet_add (HCMP.out _ (rdrewN HG.out _))))
            go_wp2
            go_roundw
            case rel => exact ⟨i + 1, by omega, by go_num, insK f l (i + 1), rfl, by rw [insK_len], by
              rw [← HU2.out]
              exact HUS.out, by rw [← HU2.out]; exact HB.out, rdrewN HG.out _⟩
            case measure => simp only [intOf]; omega
    · have e : l.length - 1 = i := by omega
      have hg' := hide hg
      rw [ht] at hblk
      have HB := hide hblk
      clear hblk ht hts htl hg
      go_wp2
      go_end0
      exact ⟨rfl, by rw [e]; exact HB.out, hg'.out⟩

/-- how far a support is from half of the votes -/
def leadV (n : Int) (ss : List Int) (j : Int) : Int := max (2 * ss.getD j.toNat 0 - n) (n - 2 * ss.getD j.toNat 0)
set_option maxHeartbeats 2000000 in
theorem lead_any (n : Int) (ss : List Int) (a : Option Addr) (cap B2 B3 j : Nat) (w : World) (hj : j < ss.length) (hn : 0 ≤ n ∧ n ≤ 5) (hs : ∀ x ∈ ss, 0 ≤ x ∧ x ≤ 5) (hi : Ints w a ss) (h2 : w.cell? ⟨B2, 0, none⟩ = some (.slice a ss.length cap)) (h3 : w.cell? ⟨B3, 0, none⟩ = some (.int .i64 n)) :
    Calls Tryz.prog 51 #[.int .i64 (j : Int), .pointer (some ⟨B2, 0, none⟩), .pointer (some ⟨B3, 0, none⟩)] w fun e w' => e = .returned (.int .i64 (leadV n ss (j : Int))) ∧ ∃ m, w' = w.drewN m := by
  obtain ⟨b, off, rfl, hb, hc⟩ := hi (by omega)
  have hck := hc j hj
  have hs1 := hs _ (mem_of_at hj)
  rw [getD_lt hj] at hck
  have HL : Hid (leadV n ss (j : Int) = max (2 * ss[j] - n) (n - 2 * ss[j])) := by unfold Hid leadV; rw [Int.toNat_natCast, getD_lt hj]
  obtain ⟨s, hs'⟩ : ∃ s, ss[j] = s := ⟨_, rfl⟩
  rw [hs'] at hck hs1 HL
  have w1 : IntKind.i64.wrap (2 * s) = 2 * s := IntWalk.i64_in _ (by omega)
  have w2 : IntKind.i64.wrap (2 * s - n) = 2 * s - n := IntWalk.i64_in _ (by omega)
  have w3 : IntKind.i64.wrap (n - 2 * s) = n - 2 * s := IntWalk.i64_in _ (by omega)
  clear hc hs hs' hi
  by_cases hm : 2 * s - n < n - 2 * s
  · go_enter Tryz.func51, Tryz.ntmps51
    go_wp2
    go_quiet (fail)
    go_wp2
    go_ret
    exact ⟨ret_int (by rw [HL.out]), ⟨_, rfl⟩⟩
  · go_enter Tryz.func51, Tryz.ntmps51
    go_wp2
    go_quiet (fail)
    go_wp2
    go_ret
    exact ⟨ret_int (by rw [HL.out]), ⟨_, rfl⟩⟩
end Go.Proofs.YtcophcjkhdipbaaGreat

/- RankI: clearestFirst of the program. -/
namespace Go.Proofs.YtcophcjkhdipbaaGreat
open Go.RowKit Go.Joins

theorem leadV_le {n : Int} {ss : List Int} (hs : ∀ x ∈ ss, 0 ≤ x ∧ x ≤ n) (j : Int) (hj : j.toNat < ss.length) : 0 ≤ leadV n ss j ∧ leadV n ss j ≤ n := by
  have h := hs _ (mem_of_at hj)
  unfold leadV
  rw [getD_lt hj]
  omega
set_option maxHeartbeats 2000000 in
set_option maxRecDepth 100000 in
theorem cmp_any (n : Int) (ss : List Int) (a : Option Addr) (cap B2 B3 B7 i j : Nat) (w : World) (hi' : i < ss.length) (hj : j < ss.length) (hn : 0 ≤ n ∧ n ≤ 5) (hs : ∀ x ∈ ss, 0 ≤ x ∧ x ≤ n) (hi : Ints w a ss) (h2 : w.cell? ⟨B2, 0, none⟩ = some (.slice a ss.length cap)) (h3 : w.cell? ⟨B3, 0, none⟩ = some (.int .i64 n))
    (h7 : w.cell? ⟨B7, 0, none⟩ = some (.func (.func 51) #[] #[.pointer (some ⟨B2, 0, none⟩), .pointer (some ⟨B3, 0, none⟩)])) :
    Calls Tryz.prog 53 #[.int .i64 (i : Int), .int .i64 (j : Int), .pointer (some ⟨B7, 0, none⟩)] w fun e w' => e = .returned (.int .i64 (leadV n ss (j : Int) - leadV n ss (i : Int))) ∧ ∃ m, w' = w.drewN m := by
  have li := leadV_le hs (i : Int) (by rw [Int.toNat_natCast]; exact hi')
  have lj := leadV_le hs (j : Int) (by rw [Int.toNat_natCast]; exact hj)
  have hs5 : ∀ x ∈ ss, 0 ≤ x ∧ x ≤ 5 := fun x hx => by have := hs x hx; omega
  have HI := hide (fun q : Nat => lead_any n ss a cap B2 B3 i (w.drewN q) hi' hn hs5 (hi.below (belN _ _)) h2 h3)
  have HJ := hide (fun q : Nat => lead_any n ss a cap B2 B3 j (w.drewN q) hj hn hs5 (hi.below (belN _ _)) h2 h3)
  obtain ⟨x, hx⟩ : ∃ x, leadV n ss (i : Int) = x := ⟨_, rfl⟩
  obtain ⟨y, hy⟩ : ∃ y, leadV n ss (j : Int) = y := ⟨_, rfl⟩
  rw [hx] at HI li ⊢
  rw [hy] at HJ lj ⊢
  have hw : IntKind.i64.wrap (y - x) = y - x := IntWalk.i64_in _ (by omega)
  clear hx hy hs hs5 hi
  go_enter Tryz.func53, Tryz.ntmps53
  go_wp2
  go_quiet (first
    | (go_at_call_of 51 (Value.int .i64 (j : Int)); exact quiet_add (HJ.out _))
    | (go_at_call_of 51 (Value.int .i64 (i : Int)); exact quiet_add (HI.out _)))
  go_wp2
  go_ret
  exact ⟨rfl, ⟨_, rfl⟩⟩

set_option maxHeartbeats 4000000 in
theorem stable_any (f : Int → Int) (g cap B : Nat) (l : List Int) (w : World) (hb : w.heap[g]? = some (.cells (l.map (Value.int .i64)).toArray 3 (0, 0))) (hl : l.length ≤ 4) (hpos : 0 < l.length)
    (hf : ∀ (x y : Int) (w' : World), x ∈ l → y ∈ l → w.grownBy w' (some g) → Calls Tryz.prog 53 #[.int .i64 x, .int .i64 y, .pointer (some ⟨B, 0, none⟩)] w' fun e w'' => e = .returned (.int .i64 (f y - f x)) ∧ ∃ m, w'' = w'.drewN m)
    (hbd : ∀ x ∈ l, 0 ≤ f x ∧ f x ≤ 16) :
    Calls Tryz.prog 52 #[.slice (some ⟨g, 0, none⟩) l.length cap, .func (.func 53) #[] #[.pointer (some ⟨B, 0, none⟩)]] w
      fun e w' => e = .returned (.tuple #[]) ∧ w'.heap[g]? = some (.cells ((insK f l (l.length - 1)).map (Value.int .i64)).toArray 3 (0, 0)) ∧ w.grownBy w' (some g) := by
  have H1 : Calls Tryz.prog 69 #[.slice (some ⟨g, 0, none⟩) l.length cap, .int .i64 (l.length : Nat), .func (.func 53) #[] #[.pointer (some ⟨B, 0, none⟩)]] w
      fun e w' => e = .returned (.tuple #[]) ∧ w'.heap[g]? = some (.cells ((insK f l (l.length - 1)).map (Value.int .i64)).toArray 3 (0, 0)) ∧ w.grownBy w' (some g) := by
    have HX := hide (insertion_any f g cap B l w hb hl hpos hf hbd)
    clear hf hbd hb
    go_enter Tryz.func69, Tryz.ntmps69
    go_wp2_with fail
    go_loopw [7, 8] (fun x y wr => x = .int .i64 0 ∧ y = .int .i64 20 ∧ wr = w) (fun _ _ _ => 0)
    case atStart => exact ⟨rfl, rfl, rfl⟩
    case round =>
      obtain ⟨rfl, rfl, rfl⟩ := hrel
      go_wp2_with fail
      refine HX.out.mono ?_
      rintro e w1 ⟨rfl, hb1, hg1⟩
      have HB := hide hb1
      have HG := hide hg1
      clear hb1 hg1
      go_wp2
      go_loopw [6] (fun x wr => x = .int .i64 20 ∧ wr = w1) (fun _ _ => 0)
      case atStart => exact ⟨rfl, rfl⟩
      case round =>
        obtain ⟨rfl, rfl⟩ := hrel
        go_wp2
        go_end0
        exact ⟨rfl, HB.out, HG.out⟩
  have HX := hide H1
  clear H1 hf hbd hb
  go_enter Tryz.func52, Tryz.ntmps52
  go_wp2_with fail
  refine HX.out.mono ?_
  rintro e w1 ⟨rfl, hb1, hg1⟩
  have HB := hide hb1
  have HG := hide hg1
  clear hb1 hg1
  go_wp2
  go_end0
  exact ⟨rfl, HB.out, HG.out⟩
end Go.Proofs.YtcophcjkhdipbaaGreat

/- RankC: The program's order of the issues, the clearest first. -/
namespace Go.Proofs.YtcophcjkhdipbaaGreat
open Go.RowKit Go.Joins

theorem own_whole {w : World} {base g n : Nat} {zs : List Int} (h : w.ownsRow base 3 1 (.slice (some ⟨g, 0, none⟩) n n) n (zs.map (Value.int .i64))) : w.heap[g]? = some (.cells (zs.map (Value.int .i64)).toArray 3 (0, 0)) := by
  rcases h.2 with ⟨h0, _⟩ | ⟨g', cap', cur, hv, _, hb, _, _, hs, ht⟩
  · cases h0
  · cases hv
    rw [hb]
    have e : cur = (zs.map (Value.int .i64)).toArray := by
      apply Array.ext'
      rw [List.toList_toArray, ← ht]
      rw [List.take_of_length_le]
      simp [hs]
    rw [e]
theorem own_back {w : World} {base g n : Nat} {zs : List Int} (hg : w.heap[g]? = some (.cells (zs.map (Value.int .i64)).toArray 3 (0, 0))) (hl : zs.length = n) (hb : base ≤ g) (hm : n ≤ maxLen) : Owns w base (.slice (some ⟨g, 0, none⟩) n n) zs := by
  refine ⟨by simp, .inr ⟨g, n, _, by rw [hl], hb, hg, by omega, hm, by simp [hl], by rw [List.take_of_length_le (by simp)]⟩⟩
/-- the numbers below m, and of them the first k laid, zeros behind -/
def upto (m : Nat) : List Int := (List.range m).map fun t : Nat => (t : Int)
def uptoK (m k : Nat) : List Int := (List.range m).map fun t : Nat => if t < k then (t : Int) else 0
theorem upto_len (m : Nat) : (upto m).length = m := by simp [upto]
theorem uptoK_len (m k : Nat) : (uptoK m k).length = m := by simp [uptoK]
theorem uptoK_zero (m : Nat) : uptoK m 0 = List.replicate m 0 := by
  unfold uptoK
  rw [List.eq_replicate_iff]
  refine ⟨by simp, fun b hb => ?_⟩
  simp at hb
  exact hb.2.symm
theorem uptoK_all (m : Nat) : uptoK m m = upto m := by
  unfold uptoK upto
  exact List.map_congr_left fun t ht => if_pos (by simpa using ht)
theorem uptoK_set (m k : Nat) (h : k < m) : (uptoK m k).set k (k : Int) = uptoK m (k + 1) := by
  refine ints_ext (by simp [uptoK]) fun t ht => ?_
  have ht' : t < m := by simpa [uptoK] using ht
  rw [List.getD_eq_getElem?_getD, List.getD_eq_getElem?_getD]
  by_cases e : k = t
  · subst e
    rw [List.getElem?_set_self (by rw [uptoK_len]; exact h)]
    simp [uptoK, ht']
  · rw [List.getElem?_set_ne e]
    simp only [uptoK, List.getElem?_map, List.getElem?_range ht', Option.map_some, Option.getD_some]
    by_cases h1 : t < k
    · rw [if_pos h1, if_pos (by omega)]
    · rw [if_neg h1, if_neg (by omega)]
theorem upto_mem {m : Nat} {x : Int} (h : x ∈ upto m) : ∃ i : Nat, x = (i : Int) ∧ i < m := by
  simp [upto] at h
  obtain ⟨i, hi, rfl⟩ := h
  exact ⟨i, rfl, hi⟩
/-- the issues, the clearest first -/
def clearL (n : Int) (ss : List Int) : List Int := insK (leadV n ss) (upto ss.length) (ss.length - 1)
theorem clearL_len (n : Int) (ss : List Int) : (clearL n ss).length = ss.length := by unfold clearL; rw [insK_len, upto_len]

set_option maxHeartbeats 4000000 in
set_option maxRecDepth 100000 in
theorem clearestFirst_any (n : Int) (a : Option Addr) (cap : Nat) (ss : List Int) (w : World) (hi : Ints w a ss) (h1 : 0 < ss.length) (h4 : ss.length ≤ 4) (hn : 0 ≤ n ∧ n ≤ 5) (hs : ∀ x ∈ ss, 0 ≤ x ∧ x ≤ n) :
    Calls Tryz.prog 28 #[.slice a ss.length cap, .int .i64 n] w (Gives (clearL n ss) w) := by
  obtain ⟨i0, hi0, hz0, hz1, hz2⟩ := info_parts info_int
  obtain ⟨m, hm⟩ : ∃ m, ss.length = m := ⟨_, rfl⟩
  have HI : Hid (∀ (wr : World) (B7 i j : Nat), Below (w.heap.size + 2) ((w.alloc (.cells #[.slice a ss.length cap] 23)).alloc (.cells #[.int .i64 n] 3)) wr → i < ss.length → j < ss.length → wr.cell? ⟨B7, 0, none⟩ = some (.func (.func 51) #[] #[.pointer (some ⟨w.heap.size, 0, none⟩), .pointer (some ⟨w.heap.size + 1, 0, none⟩)]) → Calls Tryz.prog 53 #[.int .i64 (i : Int), .int .i64 (j : Int), .pointer (some ⟨B7, 0, none⟩)] wr fun e w' => e = .returned (.int .i64 (leadV n ss (j : Int) - leadV n ss (i : Int))) ∧ ∃ m, w' = wr.drewN m) := by
    intro wr B7 i j hb hi' hj h7
    have k0 : ((w.alloc (.cells #[.slice a ss.length cap] 23)).alloc (.cells #[.int .i64 n] 3)).heap[w.heap.size]? = some (.cells #[.slice a ss.length cap] 23 (0, 0)) := by
      rw [(bel1 (w.alloc (.cells #[.slice a ss.length cap] 23)) (.cells #[.int .i64 n] 3)).block _ (lt_of_block (heap_alloc_new _ _))]
      exact heap_alloc_new _ _
    have k1 : ((w.alloc (.cells #[.slice a ss.length cap] 23)).alloc (.cells #[.int .i64 n] 3)).heap[w.heap.size + 1]? = some (.cells #[.int .i64 n] 3 (0, 0)) := by
      have := heap_alloc_new (w.alloc (.cells #[.slice a ss.length cap] 23)) (.cells #[.int .i64 n] 3)
      rwa [show (w.alloc (.cells #[.slice a ss.length cap] 23)).heap.size = w.heap.size + 1 from by simp] at this
    have e0 := (hb.block _ (by omega)).trans k0
    have e1 := (hb.block _ (by omega)).trans k1
    have ii : Ints wr a ss := by
      have b2 := bnext (bel1 w (.cells #[.slice a ss.length cap] 23)) (bel1 _ (.cells #[.int .i64 n] 3))
      exact (hi.below b2).below ⟨hb.os, hb.tape, hb.output, hb.size, fun k hk => hb.block k (by rw [show ((w.alloc (.cells #[.slice a ss.length cap] 23)).alloc (.cells #[.int .i64 n] 3)).heap.size = w.heap.size + 2 from by simp] at hk; exact hk)⟩
    exact cmp_any n ss a cap _ _ B7 i j wr hi' hj hn hs ii (cell_of_block e0 0) (cell_of_block e1 0) h7
  have HB : Hid (∀ x ∈ upto ss.length, 0 ≤ leadV n ss x ∧ leadV n ss x ≤ 16) := by
    intro x hx
    obtain ⟨i, rfl, hi'⟩ := upto_mem hx
    have := leadV_le hs (i : Int) (by rw [Int.toNat_natCast]; exact hi')
    omega
  have HW := hide (bnext (bel1 w (.cells #[.slice a ss.length cap] 23)) (bel1 _ (.cells #[.int .i64 n] 3)))
  have HC : Hid ((w.alloc (.cells #[.slice a ss.length cap] 23)).cell? ⟨w.heap.size, 0, none⟩ = some (.slice a ss.length cap)) := cell_of_block (heap_alloc_new _ _) 0
  have HL : Hid (clearL n ss = insK (leadV n ss) (upto ss.length) (ss.length - 1)) := rfl
  obtain ⟨L, hL⟩ : ∃ L, clearL n ss = L := ⟨_, rfl⟩
  obtain ⟨f, hf⟩ : ∃ f, leadV n ss = f := ⟨_, rfl⟩
  rw [hL, hf] at HL
  rw [hL]
  rw [hf] at HI HB
  rw [hm] at HI HB HW HC HL ⊢
  clear hL hf hi hs
  obtain ⟨c1, hc1⟩ : ∃ c1, w.alloc (.cells #[.slice a m cap] 23) = c1 := ⟨_, rfl⟩
  obtain ⟨wo, hwo⟩ : ∃ wo, c1.alloc (.cells #[.int .i64 n] 3) = wo := ⟨_, rfl⟩
  have hsz : wo.heap.size = w.heap.size + 2 := by rw [← hwo, ← hc1]; simp
  have hsz1 : c1.heap.size = w.heap.size + 1 := by rw [← hc1]; simp
  have hx : wo.cell? ⟨w.heap.size, 0, none⟩ = some (.slice a m cap) := by
    rw [← hwo, ← hc1]
    exact cell_of_block ((bel1 (w.alloc (.cells #[.slice a m cap] 23)) (.cells #[.int .i64 n] 3)).block _ (lt_of_block (heap_alloc_new _ _)) |>.trans (heap_alloc_new _ _)) 0
  rw [hc1, hwo] at HI HW
  obtain ⟨g, hg⟩ : ∃ g, wo.heap.size = g := ⟨_, rfl⟩
  have HSZ : Hid (g = w.heap.size + 2) := hg.symm.trans hsz
  clear HC hsz
  go_enter Tryz.func28, Tryz.ntmps28
  go_wp2_with (at_make; refine wpList_make_full _ rfl _ _ 23 rfl g 3 i0 (.int .i64 0) 1 Tryz.underlying23 hi0 hz0 hz1 _ _ _ _ m rfl rfl (by omega) (by omega) ?b2 ?b3 (Nat.le_of_eq hg.symm) ?_)
  case b2 => rw [hz2]; omega
  case b3 => unfold maxLen; omega
  intro w0 hown0 hgrow0
  rw [madeInts] at hown0
  have hb0 : Below wo.heap.size wo w0 := (Below.refl _ _).grown hgrow0 (Nat.le_refl _) (fun k h => by cases h)
  clear hgrow0
  try rw [hg] at hown0
  rw [hg] at hb0
  go_wp2
  clear hc1 hwo hx
  go_loopw [13] (fun i wr => ∃ k : Nat, k ≤ m ∧ i = .int .i64 k ∧ wr.ownsRow g 3 1 (.slice (some ⟨g, 0, none⟩) m m) m ((uptoK m k).map (Value.int .i64)) ∧ Below g wo wr) (fun i _ => m - (intOf i).toNat)
  case atStart => exact ⟨0, Nat.zero_le _, rfl, by rw [uptoK_zero]; exact hown0, hb0⟩
  case round =>
    clear hown0 hb0
    obtain ⟨k, hk, rfl, hown, BR⟩ := hrel
    by_cases hlt : k < m
    · have hfz := hown.frozenAt k
      have hst := hown.cellAt k (by omega)
      rw [List.getElem?_map, List.getElem?_eq_getElem (by rw [uptoK_len]; exact hlt), Option.map_some] at hst
      have HM := hide (uptoK_set m k hlt)
      go_wp2
      go_roundw
      case rel => exact ⟨k + 1, by omega, by go_num, by rw [← HM.out, List.map_set]; exact (hown.stored k _).1, BR.setCell (p := ⟨g, k, none⟩) (Nat.le_refl _) _⟩
      case measure => simp [intOf]; omega
    · obtain rfl : k = m := by omega
      rw [uptoK_all] at hown
      have hgl := lt_of_block (own_whole hown)
      have hK := ((bel1 wr (.cells #[.func (.func 51) #[] #[.pointer (some ⟨w.heap.size, 0, none⟩), .pointer (some ⟨w.heap.size + 1, 0, none⟩)]] 59)).block _ hgl).trans (own_whole hown)
      have hB7 := heap_alloc_new wr (.cells #[.func (.func 51) #[] #[.pointer (some ⟨w.heap.size, 0, none⟩), .pointer (some ⟨w.heap.size + 1, 0, none⟩)]] 59)
      have hBB := BR.alloc (Nat.le_of_lt hgl) (.cells #[.func (.func 51) #[] #[.pointer (some ⟨w.heap.size, 0, none⟩), .pointer (some ⟨w.heap.size + 1, 0, none⟩)]] 59)
      obtain ⟨wB, hwB⟩ : ∃ wB, wr.alloc (.cells #[.func (.func 51) #[] #[.pointer (some ⟨w.heap.size, 0, none⟩), .pointer (some ⟨w.heap.size + 1, 0, none⟩)]] 59) = wB := ⟨_, rfl⟩
      obtain ⟨B7, hB7e⟩ : ∃ B7, wr.heap.size = B7 := ⟨_, rfl⟩
      rw [hwB] at hK hB7 hBB
      rw [hB7e] at hB7 hgl
      have HK := hide hK
      have HBB := hide hBB
      have HB7 := hide hB7
      have HGL := hide hgl
      obtain ⟨l, hl⟩ : ∃ l, upto k = l := ⟨_, rfl⟩
      have hll : l.length = k := by rw [← hl, upto_len]
      have HM : Hid (∀ x ∈ l, ∃ i : Nat, x = (i : Int) ∧ i < k) := by intro x hx; rw [← hl] at hx; exact upto_mem hx
      rw [hl] at HK HB HL
      have HX : Hid (Calls Tryz.prog 52 #[.slice (some ⟨g, 0, none⟩) k k, .func (.func 53) #[] #[.pointer (some ⟨B7, 0, none⟩)]] wB
          fun e w' => e = .returned (.tuple #[]) ∧ w'.heap[g]? = some (.cells (L.map (Value.int .i64)).toArray 3 (0, 0)) ∧ wB.grownBy w' (some g)) := by
        have h := stable_any f g k B7 l wB HK.out (by omega) (by omega) (by
          intro x y w' hx hy hg'
          obtain ⟨i, rfl, hi⟩ := HM.out x hx
          obtain ⟨j, rfl, hj⟩ := HM.out y hy
          refine HI.out w' B7 i j ?_ hi hj (cell_of_block ((hg'.block B7 (lt_of_block HB7.out) (fun e => by have := Option.some.inj e; have := HGL.out; omega)).trans HB7.out) 0)
          rw [← HSZ.out]
          exact HBB.out.grown hg' (Nat.le_of_lt (lt_of_block HK.out)) (fun q hq => by cases hq; exact Nat.le_refl _)) HB.out
        rw [hll, ← HL.out] at h
        exact h
      have HLL : Hid (L.length = k) := by rw [HL.out]; exact (insK_len _ _ _).trans hll
      clear hl hown BR hll hK hBB hB7 hgl
      go_wp2_with fail
      refine HX.out.mono ?_
      rintro e w1 ⟨rfl, hb1, hg1⟩
      have HB1 := hide hb1
      have HG1 := hide hg1
      clear hb1 hg1
      go_wp2
      go_ret
      have hgw : w.heap.size ≤ g := by have := HSZ.out; omega
      refine ⟨_, rfl, own_back HB1.out HLL.out hgw (by unfold maxLen; omega), ?_⟩
      exact (HW.out.trans (HBB.out.mono hgw)).grown HG1.out (Nat.le_trans hgw (Nat.le_of_lt (lt_of_block HK.out))) (fun q hq => by cases hq; exact hgw)
end Go.Proofs.YtcophcjkhdipbaaGreat

/- Turn: Issues settled in turn: what comes of it, the program's loop and the model's loop. -/
namespace Go.Proofs.YtcophcjkhdipbaaGreat
open Go.RowKit Go.Joins

/-- one issue more: the answer of more than half, or the other one if that is not open -/
def stpT (zs vs : List Int) (s : Nat × Nat) (j : Nat) : Nat × Nat :=
  (s.1 + 2 ^ j, if openB zs ((s.1 + 2 ^ j : Nat) : Int) ((s.2 + (if vs.length < 2 * supN vs j then 2 ^ j else 0) : Nat) : Int) = true then s.2 + (if vs.length < 2 * supN vs j then 2 ^ j else 0)
    else (s.2 + (if vs.length < 2 * supN vs j then 2 ^ j else 0)) ^^^ 2 ^ j)
def turnK (zs vs ls : List Int) : Nat → Nat × Nat
  | 0 => (0, 0)
  | k + 1 => stpT zs vs (turnK zs vs ls k) (ls.getD k 0).toNat
def turnV (n : Int) (zs vs ls : List Int) : Int := if (vvB n zs vs && ordB n ls) = true then ((turnK zs vs ls ls.length).2 : Nat) else -1
theorem turnV_yes {n : Int} {zs vs ls : List Int} (h : vvB n zs vs = true) (h2 : ordB n ls = true) : turnV n zs vs ls = ((turnK zs vs ls ls.length).2 : Nat) := if_pos (by rw [h, h2]; rfl)
theorem turnV_no1 {n : Int} {zs vs ls : List Int} (h : vvB n zs vs = false) : turnV n zs vs ls = -1 := if_neg (by rw [h, Bool.false_and]; decide)
theorem turnV_no2 {n : Int} {zs vs ls : List Int} (h : ordB n ls = false) : turnV n zs vs ls = -1 := if_neg (by rw [h, Bool.and_false]; decide)

theorem tf1 : ∀ c : Fin 16, ∀ j : Fin 4, bitN c.val j.val = 0 → c.val ||| 2 ^ j.val = c.val + 2 ^ j.val ∧ c.val + 2 ^ j.val < 16 := by decide +kernel
theorem tf2 : ∀ c b : Fin 16, ∀ j : Fin 4, bitN c.val j.val = 0 → b.val &&& c.val = b.val → b.val ||| 2 ^ j.val = b.val + 2 ^ j.val ∧ b.val + 2 ^ j.val < 16 ∧ (b.val + 2 ^ j.val) &&& (c.val + 2 ^ j.val) = b.val + 2 ^ j.val ∧ b.val &&& (c.val + 2 ^ j.val) = b.val ∧ (b.val + 2 ^ j.val) ^^^ 2 ^ j.val = b.val ∧ b.val ^^^ 2 ^ j.val = b.val + 2 ^ j.val := by decide +kernel
theorem tf3 : ∀ c : Fin 16, ∀ i j : Fin 4, bitN c.val j.val = 0 → bitN (c.val + 2 ^ j.val) i.val = if i.val = j.val then 1 else bitN c.val i.val := by decide +kernel
/-- what holds of the part when k issues are settled -/
def TInv (ls : List Int) (k : Nat) (s : Nat × Nat) : Prop := s.1 < 16 ∧ s.2 < 16 ∧ s.2 &&& s.1 = s.2 ∧ ∀ i, i < 4 → (bitN s.1 i = 1 ↔ ∃ t, t < k ∧ ls.getD t 0 = (i : Int))
theorem ord_at {n : Int} {ls : List Int} (h : OrdOk n ls) (h4 : n ≤ 4) {k : Nat} (hk : k < ls.length) : ∃ j : Nat, ls[k] = (j : Int) ∧ j < 4 ∧ (j : Int) < n ∧ (ls.getD k 0).toNat = j := by
  have := h.2.1 k hk
  rw [getD_lt hk] at this
  exact ⟨ls[k].toNat, by omega, by omega, by omega, by rw [getD_lt hk]⟩
theorem tinv {n : Int} {zs vs ls : List Int} (h : OrdOk n ls) (h4 : n ≤ 4) : ∀ k, k ≤ ls.length → TInv ls k (turnK zs vs ls k)
  | 0, _ => ⟨by simp [turnK], by simp [turnK], by simp [turnK], fun i _ => by simp [turnK, bitN]⟩
  | k + 1, hk => by
    obtain ⟨hc, hb, hbc, hbits⟩ := tinv (zs := zs) (vs := vs) h h4 k (by omega)
    obtain ⟨j, hj, hj4, _, hjn⟩ := ord_at h h4 (k := k) (by omega)
    have h0 : bitN (turnK zs vs ls k).1 j = 0 := by
      have hle := bitN_le (turnK zs vs ls k).1 j
      rcases (show bitN (turnK zs vs ls k).1 j = 0 ∨ bitN (turnK zs vs ls k).1 j = 1 by omega) with h1 | h1
      · exact h1
      · obtain ⟨t, ht, e⟩ := (hbits j hj4).1 h1
        have := h.2.2 k (by omega) t ht
        rw [getD_lt (show k < ls.length by omega), hj] at this
        exact absurd e this
    have f1 := (tf1 ⟨_, hc⟩ ⟨j, hj4⟩ h0).2
    have f2 := tf2 ⟨_, hc⟩ ⟨_, hb⟩ ⟨j, hj4⟩ h0 hbc
    simp only at f1 f2
    have e : turnK zs vs ls (k + 1) = stpT zs vs (turnK zs vs ls k) j := by rw [turnK, hjn]
    rw [e]
    have both : (stpT zs vs (turnK zs vs ls k) j).2 = (turnK zs vs ls k).2 ∨ (stpT zs vs (turnK zs vs ls k) j).2 = (turnK zs vs ls k).2 + 2 ^ j := by
      unfold stpT
      by_cases hs : vs.length < 2 * supN vs j
      · simp only [if_pos hs]
        split
        · exact .inr rfl
        · exact .inl f2.2.2.2.2.1
      · simp only [if_neg hs, Nat.add_zero]
        split
        · exact .inl rfl
        · exact .inr f2.2.2.2.2.2
    refine ⟨f1, ?_, ?_, fun i hi => ?_⟩
    · rcases both with e2 | e2
      · rw [e2]; exact hb
      · rw [e2]; exact f2.2.1
    · rcases both with e2 | e2
      · rw [e2]; exact f2.2.2.2.1
      · rw [e2]; exact f2.2.2.1
    · have f3 := tf3 ⟨_, hc⟩ ⟨i, hi⟩ ⟨j, hj4⟩ h0
      simp only at f3
      show bitN ((turnK zs vs ls k).1 + 2 ^ j) i = 1 ↔ _
      rw [f3]
      constructor
      · intro hh
        split at hh
        · rename_i hij
          exact ⟨k, by omega, by rw [getD_lt (show k < ls.length by omega), hj, hij]⟩
        · obtain ⟨t, ht, et⟩ := (hbits i hi).1 hh
          exact ⟨t, by omega, et⟩
      · rintro ⟨t, ht, et⟩
        split
        · rfl
        · rename_i hij
          rcases Nat.lt_or_ge t k with h1 | h1
          · exact (hbits i hi).2 ⟨t, h1, et⟩
          · obtain rfl : t = k := by omega
            rw [getD_lt (show t < ls.length by omega), hj] at et
            omega
/-- What one step needs. -/
theorem tstep {n : Int} {zs vs ls : List Int} (h : OrdOk n ls) (h4 : n ≤ 4) {k : Nat} (hk : k < ls.length) :
    ∃ j : Nat, ls[k] = (j : Int) ∧ j < 4 ∧ (j : Int) < n ∧ turnK zs vs ls (k + 1) = stpT zs vs (turnK zs vs ls k) j ∧ (turnK zs vs ls k).1 < 16 ∧ (turnK zs vs ls k).2 < 16 ∧
      (turnK zs vs ls k).1 ||| 2 ^ j = (turnK zs vs ls k).1 + 2 ^ j ∧ (turnK zs vs ls k).1 + 2 ^ j < 16 ∧ (turnK zs vs ls k).2 ||| 2 ^ j = (turnK zs vs ls k).2 + 2 ^ j ∧ (turnK zs vs ls k).2 + 2 ^ j < 16 := by
  obtain ⟨hc, hb, hbc, hbits⟩ := tinv (zs := zs) (vs := vs) h h4 k (by omega)
  obtain ⟨j, hj, hj4, hjn, hjt⟩ := ord_at h h4 hk
  have h0 : bitN (turnK zs vs ls k).1 j = 0 := by
    have hle := bitN_le (turnK zs vs ls k).1 j
    rcases (show bitN (turnK zs vs ls k).1 j = 0 ∨ bitN (turnK zs vs ls k).1 j = 1 by omega) with h1 | h1
    · exact h1
    · obtain ⟨t, ht, e⟩ := (hbits j hj4).1 h1
      have := h.2.2 k hk t ht
      rw [getD_lt hk, hj] at this
      exact absurd e this
  have f1 := tf1 ⟨_, hc⟩ ⟨j, hj4⟩ h0
  have f2 := tf2 ⟨_, hc⟩ ⟨_, hb⟩ ⟨j, hj4⟩ h0 hbc
  simp only at f1 f2
  exact ⟨j, hj, hj4, hjn, by rw [turnK, hjt], hc, hb, f1.1, f1.2, f2.1, f2.2.1⟩
theorem bits_or : ∀ p q : Fin 16, bits .or .i64 ((p.val : Nat) : Int) ((q.val : Nat) : Int) = ((p.val ||| q.val : Nat) : Int) := by decide +kernel
theorem bits_xor : ∀ p q : Fin 16, bits .xor .i64 ((p.val : Nat) : Int) ((q.val : Nat) : Int) = ((p.val ^^^ q.val : Nat) : Int) := by decide +kernel
theorem bits_and : ∀ p q : Fin 16, bits .and .i64 ((p.val : Nat) : Int) ((q.val : Nat) : Int) = ((p.val &&& q.val : Nat) : Int) := by decide +kernel
theorem tpush : ∀ k : Fin 4, ∀ a : Fin 16, ∀ j : Fin 4, a.val < 2 ^ k.val → bitN (a.val + 2 ^ k.val) j.val = if j.val = k.val then 1 else bitN a.val j.val := by decide +kernel
theorem tbitB (vs : List Int) (j : Nat) (hj : j < 4) : ∀ k, k ≤ 4 → bitN (wantB vs k) j = if j < k ∧ vs.length < 2 * supN vs j then 1 else 0
  | 0, _ => by simp [wantB, bitN]
  | k + 1, h => by
    have ih := tbitB vs j hj k (by omega)
    have hlt := wantB_lt vs k
    have h16 : wantB vs k < 16 := Nat.lt_of_lt_of_le hlt (Nat.pow_le_pow_right (n := 2) (by omega) (show k ≤ 4 by omega))
    by_cases he : vs.length < 2 * supN vs k
    · have hp := tpush ⟨k, by omega⟩ ⟨wantB vs k, h16⟩ ⟨j, hj⟩ hlt
      simp only at hp
      rw [wantB_yes he, hp, ih]
      by_cases hjk : j = k
      · subst hjk
        rw [if_pos rfl, if_pos ⟨by omega, he⟩]
      · rw [if_neg hjk]
        by_cases hjl : j < k
        · simp [hjl, show j < k + 1 by omega]
        · rw [if_neg (by omega), if_neg (by omega)]
    · rw [wantB_no he, ih]
      by_cases hjk : j < k
      · simp [hjk, show j < k + 1 by omega]
      · rw [if_neg (by omega), if_neg]
        rintro ⟨h1, h2⟩
        obtain rfl : j = k := by omega
        exact he h2
theorem and_pow : ∀ M : Fin 16, ∀ j : Fin 4, M.val &&& 2 ^ j.val = if bitN M.val j.val = 1 then 2 ^ j.val else 0 := by decide +kernel
theorem maj_and {vs : List Int} {m j : Nat} (hm : m ≤ 4) (hj : j < m) : wantB vs m &&& 2 ^ j = if vs.length < 2 * supN vs j then 2 ^ j else 0 := by
  have h16 : wantB vs m < 16 := Nat.lt_of_lt_of_le (wantB_lt vs m) (Nat.pow_le_pow_right (n := 2) (by omega) hm)
  have h := and_pow ⟨_, h16⟩ ⟨j, by omega⟩
  simp only at h
  rw [h, tbitB vs j (by omega) m hm]
  by_cases hs : vs.length < 2 * supN vs j
  · rw [if_pos (show (if j < m ∧ vs.length < 2 * supN vs j then 1 else 0) = 1 from if_pos ⟨hj, hs⟩), if_pos hs]
  · rw [if_neg (show ¬ (if j < m ∧ vs.length < 2 * supN vs j then 1 else 0) = 1 from by rw [if_neg (fun h => hs h.2)]; omega), if_neg hs]
theorem stpT_open {zs vs : List Int} {c b j q : Nat} (hq : (if vs.length < 2 * supN vs j then 2 ^ j else 0) = q) (h : openB zs ((c + 2 ^ j : Nat) : Int) ((b + q : Nat) : Int) = true) : stpT zs vs (c, b) j = (c + 2 ^ j, b + q) := by
  subst hq
  unfold stpT
  rw [if_pos h]
theorem stpT_shut {zs vs : List Int} {c b j q : Nat} (hq : (if vs.length < 2 * supN vs j then 2 ^ j else 0) = q) (h : openB zs ((c + 2 ^ j : Nat) : Int) ((b + q : Nat) : Int) = false) : stpT zs vs (c, b) j = (c + 2 ^ j, (b + q) ^^^ 2 ^ j) := by
  subst hq
  unfold stpT
  rw [if_neg (by rw [h]; decide)]
end Go.Proofs.YtcophcjkhdipbaaGreat

/- RankM: The clearest first: the library's sort and the model's rows answer the same. -/
namespace Go.Proofs.YtcophcjkhdipbaaGreat
open Go.RowKit Go.Joins

/-- the issues of one clearness among the first k -/
def rowF (f : Int → Int) (d : Int) : Nat → List Int
  | 0 => []
  | k + 1 => if f (k : Int) = d then rowF f d k ++ [(k : Int)] else rowF f d k
/-- .. of the t greatest -/
def rowsF (f : Int → Int) (n m : Nat) : Nat → List Int
  | 0 => []
  | t + 1 => rowsF f n m t ++ rowF f ((n : Int) - (t : Int)) m
theorem rowF_len (f : Int → Int) (d : Int) : ∀ k, (rowF f d k).length ≤ k
  | 0 => Nat.le_refl _
  | k + 1 => by
    have := rowF_len f d k
    unfold rowF
    split
    · rw [List.length_append]; simp; omega
    · omega
theorem rowsF_len (f : Int → Int) (n m : Nat) : ∀ t, (rowsF f n m t).length ≤ m * t
  | 0 => by simp [rowsF]
  | t + 1 => by
    have h1 := rowsF_len f n m t
    have h2 := rowF_len f ((n : Int) - (t : Int)) m
    unfold rowsF
    rw [List.length_append, Nat.mul_succ]
    omega
/-- all lists of m numbers up to n -/
def allL (n : Nat) : Nat → List (List Nat)
  | 0 => [[]]
  | m + 1 => (List.range (n + 1)).flatMap fun a => (allL n m).map fun l => a :: l
theorem mem_allL {n : Nat} : ∀ {m : Nat} {l : List Nat}, l.length = m → (∀ x ∈ l, x ≤ n) → l ∈ allL n m
  | 0, l, hl, _ => by simp [allL, List.length_eq_zero_iff.1 hl]
  | m + 1, [], hl, _ => by simp at hl
  | m + 1, a :: l, hl, h => by
    unfold allL
    rw [List.mem_flatMap]
    refine ⟨a, List.mem_range.2 (by have := h a (by simp); omega), List.mem_map.2 ⟨l, mem_allL (by simpa using hl) (fun x hx => h x (by simp [hx])), rfl⟩⟩
def rankOk (n : Nat) (l : List Nat) : Bool :=
  decide (clearL (n : Int) (l.map fun x : Nat => (x : Int)) = rowsF (leadV (n : Int) (l.map fun x : Nat => (x : Int))) n l.length (n + 1)) && ordB (l.length : Int) (clearL (n : Int) (l.map fun x : Nat => (x : Int)))
set_option maxRecDepth 100000 in
theorem rank_chk : ((List.range 6).all fun n => (List.range 4).all fun m => (allL n (m + 1)).all fun l => rankOk n l) = true := by decide +kernel
theorem rank_ok {n : Nat} {ss : List Int} (hn : n ≤ 5) (h1 : 0 < ss.length) (h4 : ss.length ≤ 4) (hs : ∀ x ∈ ss, 0 ≤ x ∧ x ≤ (n : Int)) :
    clearL (n : Int) ss = rowsF (leadV (n : Int) ss) n ss.length (n + 1) ∧ OrdOk (ss.length : Int) (clearL (n : Int) ss) := by
  obtain ⟨l, hl⟩ : ∃ l : List Nat, l.map (fun x : Nat => (x : Int)) = ss := by
    refine ⟨ss.map Int.toNat, ?_⟩
    rw [List.map_map]
    conv => rhs; rw [← List.map_id ss]
    refine List.map_congr_left fun x hx => ?_
    have := hs x hx
    simp only [Function.comp, id]
    omega
  have hll : l.length = ss.length := by rw [← hl, List.length_map]
  have h := List.all_eq_true.1 (List.all_eq_true.1 (List.all_eq_true.1 rank_chk n (List.mem_range.2 (by omega))) (ss.length - 1) (List.mem_range.2 (by omega))) l (mem_allL (by omega) (fun x hx => by
    have := hs (x : Int) (by rw [← hl]; exact List.mem_map.2 ⟨x, hx, rfl⟩)
    omega))
  unfold rankOk at h
  rw [Bool.and_eq_true, hl, hll] at h
  exact ⟨of_decide_eq_true h.1, ord_of h.2⟩
/-- what RankedRule answers -/
def rankV (n : Int) (zs vs : List Int) : Int := turnV n zs vs (clearL vs.length (supL n.toNat vs))
theorem supL_le {m : Nat} {vs : List Int} : ∀ x ∈ supL m vs, 0 ≤ x ∧ x ≤ (vs.length : Int) := by
  intro x hx
  simp [supL, supKL] at hx
  obtain ⟨j, _, rfl⟩ := hx
  have := supK_le vs j vs.length
  omega
theorem rankV_yes {n : Nat} {zs vs : List Int} (h : vvB n zs vs = true) : clearL vs.length (supL n vs) = rowsF (leadV vs.length (supL n vs)) vs.length n (vs.length + 1) ∧ OrdOk (n : Int) (clearL vs.length (supL n vs)) ∧ rankV n zs vs = ((turnK zs vs (clearL vs.length (supL n vs)) (clearL vs.length (supL n vs)).length).2 : Nat) := by
  have hv := vv_of h
  have h1 := hv.1.1
  have h2 := hv.2.2
  have hk := rank_ok (n := vs.length) (ss := supL n vs) (by omega) (by rw [supL_length]; omega) (by rw [supL_length]; omega) supL_le
  rw [supL_length] at hk
  refine ⟨hk.1, hk.2, ?_⟩
  unfold rankV
  rw [Int.toNat_natCast]
  exact turnV_yes h (ordB_true hk.2)
theorem rankV_no {n : Int} {zs vs : List Int} (h : vvB n zs vs = false) : rankV n zs vs = -1 := turnV_no1 h
end Go.Proofs.YtcophcjkhdipbaaGreat

/- VotesW: ValidVotes and validVotes with a free answer. -/
namespace Go.Proofs.YtcophcjkhdipbaaGreat
open Go.RowKit Go.Joins

theorem votes_was (n : Int) (a l : Option Addr) (cap capl : Nat) (zs vs : List Int) (w : World) (r : Bool) (hi : Ints w a zs) (hj : Ints w l vs) (hn : zs.length ≤ 1048576) (hm : vs.length ≤ 1048576) (hr : vvB n zs vs = r) :
    Calls Tryz.prog 8 #[.agg #[.int .i64 n, .slice a zs.length cap], .slice l vs.length capl] w fun e w' => e = .returned (.bool r) ∧ Below w.heap.size w w' :=
  (implValidVotes_any n a l cap capl zs vs w hi hj hn hm).mono fun _ _ ⟨he, hb⟩ => ⟨he.trans (ret_bool hr), hb⟩
end Go.Proofs.YtcophcjkhdipbaaGreat

/- TurnI: TurnRule of the program. -/
namespace Go.Proofs.YtcophcjkhdipbaaGreat
open Go.RowKit Go.Joins

theorem isOrder_is (n : Int) (a : Option Addr) (cap : Nat) (ls : List Int) (w : World) (r : Bool) (hi : Ints w a ls) (h1 : 1 ≤ n) (h4 : n ≤ 4) (hm : ls.length ≤ 1048576) (hr : ordB n ls = r) :
    Calls Tryz.prog 48 #[.int .i64 n, .slice a ls.length cap] w fun e w' => e = .returned (.bool r) ∧ Below w.heap.size w w' := by
  subst hr
  exact isOrder_any n a cap ls w hi h1 h4 hm
theorem asks_is (n c b : Int) (a : Option Addr) (cap g : Nat) (zs : List Int) (w : World) (r : Bool) (hi : Ints w a zs) (hn : zs.length ≤ 1048576) (bx : Box w g n a zs.length cap) (hr : ∀ x ∈ zs, 0 ≤ x ∧ x ≤ 15) (hc : 0 ≤ c ∧ c ≤ 15) (hb : 0 ≤ b) (h : openB zs c b = r) :
    Calls Tryz.prog 66 #[.agg #[.int .i64 c, .int .i64 b], .pointer (some ⟨g, 0, none⟩)] w fun e w' => e = .returned (.bool r) ∧ Below w.heap.size w w' := by
  subst h
  exact openAsker1_any n c b a cap g zs w hi hn bx hr hc hb

set_option maxHeartbeats 8000000 in
set_option maxRecDepth 100000 in
theorem implTurnRule_any (n : Int) (a l q : Option Addr) (cap capl capq : Nat) (zs vs ls : List Int) (w : World) (hi : Ints w a zs) (hj : Ints w l vs) (hq : Ints w q ls) (hn : zs.length ≤ 1048576) (hm : vs.length ≤ 1048576) (ho : ls.length ≤ 1048576) :
    Calls Tryz.prog 27 #[.agg #[.int .i64 n, .slice a zs.length cap], .slice l vs.length capl, .slice q ls.length capq] w fun e w' => e = .returned (.int .i64 (turnV n zs vs ls)) ∧ Below w.heap.size w w' := by
  have S0 := SV.new w n a zs cap l vs 25 hi hj
  have q0 := hq.below (bel1 w (.cells #[.int .i64 n, .slice a zs.length cap] 25))
  clear hi hj hq
  by_cases hv : vvB n zs vs = false
  · have HN := hide (turnV_no1 (ls := ls) hv)
    have HV := hide hv
    clear hv
    obtain ⟨⟨_, c0, c1⟩, _⟩ := S0.pair
    go_enter Tryz.func27, Tryz.ntmps27
    go_wp2_with fail
    refine (votes_was _ _ _ _ _ _ _ _ false S0.2.1 S0.2.2.1 hn hm HV.out).mono ?_
    rintro e w1 ⟨rfl, hb⟩
    go_wp2
    go_ret
    exact ⟨ret_int HN.out.symm, (S0.below hb).2.2.2⟩
  · have hv : vvB n zs vs = true := by simpa using hv
    have hV := vv_of hv
    obtain ⟨m, rfl⟩ := Int.eq_ofNat_of_zero_le (show 0 ≤ n from by have := hV.1.1; omega)
    have h4 : m ≤ 4 := by have := hV.1.1; omega
    have h1 : 1 ≤ (m : Int) := hV.1.1.1
    have HZ := hide (valid_range hV.1)
    have HV := hide hv
    by_cases hod : ordB (m : Int) ls = false
    · have HN := hide (turnV_no2 (zs := zs) (vs := vs) hod)
      have HO := hide hod
      clear hv hV hod
      obtain ⟨⟨_, c0, c1⟩, _⟩ := S0.pair
      go_enter Tryz.func27, Tryz.ntmps27
      go_wp2_with fail
      refine (votes_was _ _ _ _ _ _ _ _ true S0.2.1 S0.2.2.1 hn hm HV.out).mono ?_
      rintro e w1 ⟨rfl, hb⟩
      have S1 := S0.below hb
      have q1 := q0.below hb
      clear S0 hb c0 c1
      obtain ⟨⟨_, c0, c1⟩, _⟩ := S1.pair
      go_wp2_with fail
      refine (isOrder_is _ _ _ _ _ false q1 h1 (by omega) ho HO.out).mono ?_
      rintro e w2 ⟨rfl, hb⟩
      go_wp2
      go_ret
      exact ⟨ret_int HN.out.symm, (S1.below hb).2.2.2⟩
    · have hod : ordB (m : Int) ls = true := by simpa using hod
      have HN := hide (turnV_yes hv hod)
      have HO := hide hod
      have HOK := hide (ord_of hod)
      have HMJ := hide (majV_yes hv)
      have hM := wantB_lt vs m
      have hM16 : wantB vs m < 16 := Nat.lt_of_lt_of_le hM (Nat.pow_le_pow_right (n := 2) (by omega) h4)
      clear hv hV hod hM
      obtain ⟨⟨_, c0, c1⟩, _⟩ := S0.pair
      go_enter Tryz.func27, Tryz.ntmps27
      go_wp2_with fail
      refine (votes_was _ _ _ _ _ _ _ _ true S0.2.1 S0.2.2.1 hn hm HV.out).mono ?_
      rintro e w1 ⟨rfl, hb⟩
      have S1 := S0.below hb
      have q1 := q0.below hb
      clear S0 hb c0 c1
      obtain ⟨⟨_, c0, c1⟩, _⟩ := S1.pair
      go_wp2_with fail
      refine (isOrder_is _ _ _ _ _ true q1 h1 (by omega) ho HO.out).mono ?_
      rintro e w2 ⟨rfl, hb⟩
      have S2 := S1.below hb
      have q2 := q1.below hb
      clear S1 hb c0 c1 q1
      obtain ⟨⟨_, c0, c1⟩, _⟩ := S2.pair
      go_wp2_with fail
      refine (implMajorityOf_any _ _ _ _ _ _ _ _ S2.2.1 S2.2.2.1 hn hm).mono ?_
      rintro e w3 ⟨rfl, hb⟩
      rw [HMJ.out, Int.toNat_natCast]
      have S3 := S2.below hb
      have q3 := q2.below hb
      clear S2 hb c0 c1 q2
      obtain ⟨⟨_, c0, c1⟩, _⟩ := S3.pair
      go_wp2_with fail
      refine (openAsker_any _ _ _ _ _).mono ?_
      rintro e w4 ⟨rfl, hw4⟩
      have bxo := Box.new w3 m a zs.length cap 25
      have S4 := S3.below (bel1 w3 (.cells #[.int .i64 m, .slice a zs.length cap] 25))
      have q4 := q3.below (bel1 w3 (.cells #[.int .i64 m, .slice a zs.length cap] 25))
      obtain ⟨gs, hgs⟩ : ∃ gs : Nat, w3.heap.size = gs := ⟨_, rfl⟩
      rw [← hw4] at bxo S4 q4
      rw [hgs] at bxo ⊢
      have hblk0 := heap_alloc_new w4 (.cells #[.int .i64 0, .int .i64 0] 41)
      have BA := bel1 w4 (.cells #[.int .i64 0, .int .i64 0] 41)
      clear S3 c0 c1 q3 hw4 hgs
      go_wp2
      go_loopw [30] (fun i wr => ∃ k : Nat, k ≤ ls.length ∧ i = .int .i64 k ∧ wr.heap[w4.heap.size]? = some (.cells #[.int .i64 ((turnK zs vs ls k).1 : Nat), .int .i64 ((turnK zs vs ls k).2 : Nat)] 41 (0, 0)) ∧ Below w4.heap.size w4 wr) (fun i _ => ls.length - (intOf i).toNat)
      case atStart => exact ⟨0, Nat.zero_le _, rfl, hblk0, BA⟩
      case round =>
        clear hblk0 BA
        obtain ⟨k, hk, rfl, hblk, BR⟩ := hrel
        by_cases hlt : k < ls.length
        · obtain ⟨j, hj, hj4, hjm, hst, hC, hB, o1, o1', o2, o2'⟩ := tstep (zs := zs) (vs := vs) HOK.out (by omega) hlt
          obtain ⟨bq, oq, rfl, hbq, hcq⟩ := (q4.below BR) (by omega)
          have hck := hcq k hlt
          rw [getD_lt hlt, hj] at hck
          have hma := maj_and (vs := vs) (m := m) (j := j) h4 (by omega)
          obtain ⟨p, hp⟩ : ∃ p : Nat × Nat, turnK zs vs ls k = p := ⟨_, rfl⟩
          obtain ⟨C, B⟩ := p
          rw [hp] at hblk hst hC hB o1 o1' o2 o2'
          simp only at hblk hC hB o1 o1' o2 o2'
          have hpj : 2 ^ j < 16 := Nat.lt_of_lt_of_le (Nat.pow_lt_pow_right (by omega) hj4) (by decide)
          obtain ⟨Q, hQ⟩ : ∃ Q : Nat, (if vs.length < 2 * supN vs j then 2 ^ j else 0) = Q := ⟨_, rfl⟩
          have hQv : (Q = 0 ∨ Q = 2 ^ j) := by rw [← hQ]; split <;> simp
          have hoB : B ||| Q = B + Q ∧ B + Q < 16 ∧ Q < 16 := by
            rcases hQv with e | e
            · rw [e]; simp; omega
            · rw [e]; exact ⟨o2, o2', hpj⟩
          have hw2 := wrap_pow2 j (by omega)
          have e1 : bits .or .i64 (C : Int) (2 ^ j) = ((C + 2 ^ j : Nat) : Int) := by rw [← pow_cast, bits_or ⟨C, hC⟩ ⟨2 ^ j, hpj⟩, o1]
          have e2 : bits .and .i64 (wantB vs m : Int) (2 ^ j) = (Q : Int) := by rw [← pow_cast, bits_and ⟨_, hM16⟩ ⟨2 ^ j, hpj⟩, hma, hQ]
          have e3 : bits .or .i64 (B : Int) (Q : Int) = ((B + Q : Nat) : Int) := by rw [bits_or ⟨B, hB⟩ ⟨Q, hoB.2.2⟩, hoB.1]
          have e4 : bits .xor .i64 ((B + Q : Nat) : Int) (2 ^ j) = (((B + Q) ^^^ 2 ^ j : Nat) : Int) := by rw [← pow_cast, bits_xor ⟨B + Q, hoB.2.1⟩ ⟨2 ^ j, hpj⟩]
          have hB1 := hoB.2.1
          have HQ := hide hQ
          have HST := hide hst
          obtain ⟨C1, hC1⟩ : ∃ C1, C + 2 ^ j = C1 := ⟨_, rfl⟩
          obtain ⟨B1, hB1'⟩ : ∃ B1, B + Q = B1 := ⟨_, rfl⟩
          obtain ⟨B2, hB2⟩ : ∃ B2, B1 ^^^ 2 ^ j = B2 := ⟨_, rfl⟩
          rw [hC1] at e1 o1'
          rw [hB1'] at e3 e4 hB1
          rw [hB2] at e4
          have HC1 := hide hC1
          have HB1 := hide hB1'
          have HB2 := hide hB2
          have g0 := cell_of_block hblk 0
          have g1 := cell_of_block hblk 1
          have f0 := unfrozen_of_block hblk 0
          have f1 := unfrozen_of_block hblk 1
          have BH := hide BR
          have HBK := hide hblk
          have HC16 := hide o1'
          clear hcq hst hp hma hQ hQv hoB hC hB o1 o2 o2' hC1 hB1' hB2 hblk BR hj
          by_cases hop : openB zs (C1 : Int) (B1 : Int) = true
          · have HOP := hide hop
            clear hop
            go_wp2
            go_region
            all_goals go_wp2
            all_goals go_region
            all_goals go_wp2_with fail
            all_goals
              have BX := bdrew' ((bdrew' (BH.out.setCell (p := ⟨w4.heap.size, 0, none⟩) (Nat.le_refl _) (.int .i64 (C1 : Int)))).setCell (p := ⟨w4.heap.size, 1, none⟩) (Nat.le_refl _) (.int .i64 (B1 : Int)))
              refine (asks_is _ _ _ _ _ _ _ _ true (S4.below BX).2.1 hn (bxo.below BX) HZ.out (by have := HC16.out; omega) (by omega) HOP.out).mono ?_
              rintro e w8 ⟨rfl, hb8⟩
              have hX := block_setCell (i := 1) (block_setCell (i := 0) HBK.out (.int .i64 (C1 : Int))) (.int .i64 (B1 : Int))
              go_wp2
              go_roundw
              case rel => exact ⟨k + 1, by omega, by go_num, by
                rw [HST.out, stpT_open HQ.out (by rw [HC1.out, HB1.out]; exact HOP.out)]
                simp only [HC1.out, HB1.out]
                exact (hb8.block _ (lt_of_block hX)).trans hX, bnext BX hb8⟩
              case measure => simp [intOf]; omega
          · have hop : openB zs (C1 : Int) (B1 : Int) = false := by simpa using hop
            have HOP := hide hop
            clear hop
            go_wp2
            go_region
            all_goals go_wp2
            all_goals go_region
            all_goals go_wp2_with fail
            all_goals
              have BX := bdrew' ((bdrew' (BH.out.setCell (p := ⟨w4.heap.size, 0, none⟩) (Nat.le_refl _) (.int .i64 (C1 : Int)))).setCell (p := ⟨w4.heap.size, 1, none⟩) (Nat.le_refl _) (.int .i64 (B1 : Int)))
              refine (asks_is _ _ _ _ _ _ _ _ false (S4.below BX).2.1 hn (bxo.below BX) HZ.out (by have := HC16.out; omega) (by omega) HOP.out).mono ?_
              rintro e w8 ⟨rfl, hb8⟩
              have hX := block_setCell (i := 1) (block_setCell (i := 0) HBK.out (.int .i64 (C1 : Int))) (.int .i64 (B1 : Int))
              have hY := (hb8.block _ (lt_of_block hX)).trans hX
              have y1 := cell_of_block hY 1
              have x1 := unfrozen_of_block hY 1
              have BY := bnext BX hb8
              have HY := hide hY
              clear hX hY hb8 BX g0 g1 f0 f1
              go_wp2
              go_region
              all_goals go_wp2
              all_goals
                go_roundw
                case rel => exact ⟨k + 1, by omega, by go_num, by
                  rw [HST.out, stpT_shut HQ.out (by rw [HC1.out, HB1.out]; exact HOP.out)]
                  simp only [HC1.out, HB1.out, HB2.out]
                  exact block_setCell (i := 1) HY.out _, bdrew' (BY.setCell (p := ⟨w4.heap.size, 1, none⟩) (Nat.le_refl _) _)⟩
                case measure => simp [intOf]; omega
        · obtain rfl : k = ls.length := by omega
          have g1 := cell_of_block hblk 1
          have hS := bnext S4.2.2.2 BR
          go_wp2
          go_ret
          exact ⟨ret_int HN.out.symm, hS⟩
end Go.Proofs.YtcophcjkhdipbaaGreat

/- TurnS: TurnRule of the model. -/
namespace Go.Proofs.YtcophcjkhdipbaaGreat
open Go.RowKit Go.Joins

theorem power_was (n r : Int) (w : World) (h0 : 0 ≤ n) (h4 : n ≤ 6) (hr : pw n = r) : Calls Tryz.prog 40 #[.int .i64 n] w fun e w' => e = .returned (.int .i64 r) ∧ w = w' := by
  subst hr
  exact power_any n w h0 h4
end Go.Proofs.YtcophcjkhdipbaaGreat

/- RankR: RankedRule of the program and of the model. -/
namespace Go.Proofs.YtcophcjkhdipbaaGreat
open Go.RowKit Go.Joins

set_option maxHeartbeats 4000000 in
theorem implRankedRule_any (n : Int) (a l : Option Addr) (cap capl : Nat) (zs vs : List Int) (w : World) (hi : Ints w a zs) (hj : Ints w l vs) (hn : zs.length ≤ 1048576) (hm : vs.length ≤ 1048576) :
    Calls Tryz.prog 13 #[.agg #[.int .i64 n, .slice a zs.length cap], .slice l vs.length capl] w fun e w' => e = .returned (.int .i64 (rankV n zs vs)) ∧ Below w.heap.size w w' := by
  have S0 := SV.new w n a zs cap l vs 25 hi hj
  clear hi hj
  by_cases hv : vvB n zs vs = false
  · have HN := hide (rankV_no hv)
    have HV := hide hv
    clear hv
    obtain ⟨⟨_, c0, c1⟩, _⟩ := S0.pair
    go_enter Tryz.func13, Tryz.ntmps13
    go_wp2_with fail
    refine (votes_was _ _ _ _ _ _ _ _ false S0.2.1 S0.2.2.1 hn hm HV.out).mono ?_
    rintro e w1 ⟨rfl, hb⟩
    go_wp2
    go_ret
    exact ⟨ret_int HN.out.symm, (S0.below hb).2.2.2⟩
  · have hv : vvB n zs vs = true := by simpa using hv
    have hV := vv_of hv
    obtain ⟨m, rfl⟩ := Int.eq_ofNat_of_zero_le (show 0 ≤ n from by have := hV.1.1; omega)
    have h4 : m ≤ 4 := by have := hV.1.1; omega
    have h1 : 1 ≤ m := by have := hV.1.1; omega
    have hv5 : 0 ≤ (vs.length : Int) ∧ (vs.length : Int) ≤ 5 := by have := hV.2.2; omega
    have HV := hide hv
    have HSA : Hid (supA (m : Int) zs vs = supL m vs) := (supA_yes hv).trans (by rw [Int.toNat_natCast])
    have HSL := hide (supL_le (m := m) (vs := vs))
    have HN : Hid (rankV (m : Int) zs vs = turnV (m : Int) zs vs (clearL vs.length (supL m vs))) := by unfold Hid rankV; rw [Int.toNat_natCast]
    have hql := clearL_len vs.length (supL m vs)
    have hsl := supL_length m vs
    clear hv hV
    obtain ⟨ss, hss⟩ : ∃ ss, supL m vs = ss := ⟨_, rfl⟩
    rw [hss] at HSA HSL HN hql hsl
    obtain ⟨q, hqe⟩ : ∃ q, clearL vs.length ss = q := ⟨_, rfl⟩
    rw [hqe] at HN hql
    have HQ := hide hqe
    have hs1 : 0 < ss.length := by omega
    have hs4 : ss.length ≤ 4 := by omega
    have hq : q.length ≤ 1048576 := by omega
    clear hss hqe hql hsl
    obtain ⟨⟨_, c0, c1⟩, _⟩ := S0.pair
    go_enter Tryz.func13, Tryz.ntmps13
    go_wp2_with fail
    refine (votes_was _ _ _ _ _ _ _ _ true S0.2.1 S0.2.2.1 hn hm HV.out).mono ?_
    rintro e w1 ⟨rfl, hb⟩
    have S1 := S0.below hb
    clear S0 hb c0 c1
    obtain ⟨⟨_, c0, c1⟩, _⟩ := S1.pair
    go_wp2
    refine wp_region_held_drew (S := (fun w' => w'.cell? ⟨w.heap.size, 0, none⟩ = some (.int .i64 (m : Int)) ∧ w'.cell? ⟨w.heap.size, 1, none⟩ = some (.slice a zs.length cap))) (by kernel_rfl) ?_ (fun hHeld => ?_)
    · exact ⟨c0, c1⟩
    refine wpAnyH_take (i := 0) (v := ?vvt1) rfl (by kernel_rfl) (by kernel_rfl) (by kernel_rfl) (fun _ _ _ h => h) (Or.inl ⟨by rfl, ?hyt1⟩) (by assumption) ?restt1
    case hyt1 => (intro w hSw; (try dsimp only at hSw); go_simp; (try with_reducible rfl))
    case restt1 =>
      (try simp only [Act.put, List.setIfInBounds_toArray, List.set_cons_zero, List.set_cons_succ, List.getElem_toArray, List.getElem_cons_zero])
      refine wpAnyH_take (i := 1) (v := ?vvt2) rfl (by kernel_rfl) (by kernel_rfl) (by kernel_rfl) (fun _ _ _ h => h) (Or.inl ⟨by rfl, ?hyt2⟩) (by assumption) ?restt2
      case hyt2 => (intro w hSw; (try dsimp only at hSw); go_simp; (try with_reducible rfl))
      case restt2 =>
        (try simp only [Act.put, List.setIfInBounds_toArray, List.set_cons_zero, List.set_cons_succ, List.getElem_toArray, List.getElem_cons_zero, List.getElem_cons_succ])
        refine wpAnyH_take (i := 2) (v := ?vvt3) rfl (by kernel_rfl) (by kernel_rfl) (by kernel_rfl) (fun _ _ _ h => h) (Or.inl ⟨by rfl, ?hyt3⟩) (by assumption) ?restt3
        case hyt3 => (intro w hSw; (try dsimp only at hSw); go_simp; (try with_reducible rfl))
        case restt3 =>
          (try simp only [Act.put, List.setIfInBounds_toArray, List.set_cons_zero, List.set_cons_succ, List.getElem_toArray, List.getElem_cons_zero, List.getElem_cons_succ])
          refine wpAnyH_take (i := 3) (v := ?vvt4) rfl (by kernel_rfl) (by kernel_rfl) (by kernel_rfl) (fun _ _ _ h => h) (Or.inl ⟨by rfl, ?hyt4⟩) (by assumption) ?restt4
          case hyt4 => (intro w hSw; (try dsimp only at hSw); go_simp; (try with_reducible rfl))
          case restt4 =>
            (try simp only [Act.put, List.setIfInBounds_toArray, List.set_cons_zero, List.set_cons_succ, List.getElem_toArray, List.getElem_cons_zero, List.getElem_cons_succ])
            refine wpAnyH_take (i := 5) (v := ?vvt5) rfl (by kernel_rfl) (by kernel_rfl) (by kernel_rfl) (fun _ _ _ h => h) (Or.inl ⟨by rfl, ?hyt5⟩) (by assumption) ?restt5
            case hyt5 => (intro w hSw; (try dsimp only at hSw); go_simp; (try with_reducible rfl))
            case restt5 =>
              (try simp only [Act.put, List.setIfInBounds_toArray, List.set_cons_zero, List.set_cons_succ, List.getElem_toArray, List.getElem_cons_zero, List.getElem_cons_succ])
              refine wpAnyH_take (i := 6) (v := ?vvt6) rfl (by kernel_rfl) (by kernel_rfl) (by kernel_rfl) (fun _ _ _ h => h) (Or.inl ⟨by rfl, ?hyt6⟩) (by assumption) ?restt6
              case hyt6 => (intro w hSw; (try dsimp only at hSw); go_simp; (try with_reducible rfl))
              case restt6 =>
                (try simp only [Act.put, List.setIfInBounds_toArray, List.set_cons_zero, List.set_cons_succ, List.getElem_toArray, List.getElem_cons_zero, List.getElem_cons_succ])
                refine wpAnyH_ready (rs := [4]) (by kernel_rfl) (by simp) ?_
                refine (AllReadyH.cons rfl (fun K hK => ?_) AllReadyH.nil)
                go_simp
                go_at_call 29
                refine (implSupportOf_any _ _ _ _ _ _ _ _ (S1.below (bdrew' (Below.refl _ _))).2.1 (S1.below (bdrew' (Below.refl _ _))).2.2.1 hn hm).mono ?_
                rintro e w2 ⟨v2, rfl, ov, hb2⟩
                rw [HSA.out] at ov
                obtain ⟨av, cv, rfl, iv, _⟩ := ov.form
                have S2 := S1.below (bdrew hb2)
                have IV := hide iv
                clear ov iv hb2 c0 c1
                obtain ⟨⟨_, c0, c1⟩, _⟩ := S2.pair
                refine hK.out _ _ ?_ (fun hHeld => ?_)
                · exact ⟨c0, c1⟩
                clear hK K
                (try simp only [Act.put, List.setIfInBounds_toArray, List.set_cons_zero, List.set_cons_succ, List.getElem_toArray, List.getElem_cons_zero, List.getElem_cons_succ])
                refine wpAnyH_ready (rs := [7]) (by kernel_rfl) (by simp) ?_
                refine (AllReadyH.cons rfl (fun K hK => ?_) AllReadyH.nil)
                go_simp
                go_at_call 28
                refine (clearestFirst_any _ _ _ _ _ IV.out hs1 hs4 hv5 HSL.out).mono ?_
                rintro e w3 ⟨v3, rfl, oq, hb3⟩
                rw [HQ.out] at oq
                obtain ⟨aq, cq, rfl, iq, _⟩ := oq.form
                have S3 := S2.below hb3
                have IQ := hide iq
                clear oq iq hb3 c0 c1
                obtain ⟨⟨_, c0, c1⟩, _⟩ := S3.pair
                refine hK.out _ _ ?_ (fun hHeld => ?_)
                · exact ⟨c0, c1⟩
                clear hK K
                (try simp only [Act.put, List.setIfInBounds_toArray, List.set_cons_zero, List.set_cons_succ, List.getElem_toArray, List.getElem_cons_zero, List.getElem_cons_succ])
                refine wpAnyH_ready (rs := [8]) (by kernel_rfl) (by simp) ?_
                refine (AllReadyH.cons rfl (fun K hK => ?_) AllReadyH.nil)
                go_simp
                go_at_call 27
                refine (implTurnRule_any _ _ _ _ _ _ _ _ _ _ _ S3.2.1 S3.2.2.1 IQ.out hn hm hq).mono ?_
                rintro e w4 ⟨rfl, hb4⟩
                have S4 := S3.below hb4
                clear c0 c1
                obtain ⟨⟨_, c0, c1⟩, _⟩ := S4.pair
                refine hK.out _ _ ?_ (fun hHeld => ?_)
                · exact ⟨c0, c1⟩
                clear hK K
                (try simp only [Act.put, List.setIfInBounds_toArray, List.set_cons_zero, List.set_cons_succ, List.getElem_toArray, List.getElem_cons_zero, List.getElem_cons_succ])
                refine wpAnyH_take (i := 9) (v := ?vvt7) rfl (by kernel_rfl) (by kernel_rfl) (by kernel_rfl) (fun _ _ _ h => h) (Or.inl ⟨by rfl, ?hyt7⟩) (by assumption) ?restt7
                case hyt7 => (intro w hSw; (try dsimp only at hSw); go_simp; (try with_reducible rfl))
                case restt7 =>
                  (try simp only [Act.put, List.setIfInBounds_toArray, List.set_cons_zero, List.set_cons_succ, List.getElem_toArray, List.getElem_cons_zero, List.getElem_cons_succ])
                  refine wpAnyH_done (by kernel_rfl) ?_ _
                  go_wp2
                  go_ret
                  exact ⟨ret_int HN.out.symm, S4.2.2.2⟩

end Go.Proofs.YtcophcjkhdipbaaGreat
