/- clearestFirst of the program. -/
import Derived.Test.YtccemllgglfgkaaRank
import Derived.Laws.EntriesVeiled
import Derived.Deep.RegionWith
namespace Go.Proofs.Ytccemllgglfgkaa
open Go.RowKit Go.Joins

theorem leadV_le {n : Int} {ss : List Int} (hs : ∀ x ∈ ss, 0 ≤ x ∧ x ≤ n) (j : Int) (hj : j.toNat < ss.length) : 0 ≤ leadV n ss j ∧ leadV n ss j ≤ n := by
  have h := hs _ (mem_of_at hj)
  unfold leadV
  rw [getD_lt hj]
  omega
set_option maxHeartbeats 2000000 in
set_option maxRecDepth 100000 in
theorem cmp_any (n : Int) (ss : List Int) (a : Option Addr) (cap B2 B3 B7 i j : Nat) (w : World) (hi' : i < ss.length) (hj : j < ss.length) (hn : 0 ≤ n ∧ n ≤ 5) (hs : ∀ x ∈ ss, 0 ≤ x ∧ x ≤ n) (hi : Ints w a ss) (h2 : w.cell? ⟨B2, 0, none⟩ = some (.slice a ss.length cap)) (h3 : w.cell? ⟨B3, 0, none⟩ = some (.int .i64 n))
    (h7 : w.cell? ⟨B7, 0, none⟩ = some (.func (.func 125) #[] #[.pointer (some ⟨B2, 0, none⟩), .pointer (some ⟨B3, 0, none⟩)])) :
    Calls Try.prog 127 #[.int .i64 (i : Int), .int .i64 (j : Int), .pointer (some ⟨B7, 0, none⟩)] w fun e w' => e = .returned (.int .i64 (leadV n ss (j : Int) - leadV n ss (i : Int))) ∧ ∃ m, w' = w.drewN m := by
  have li := leadV_le hs (i : Int) (by rw [Int.toNat_natCast]; exact hi')
  have lj := leadV_le hs (j : Int) (by rw [Int.toNat_natCast]; exact hj)
  have hs5 : ∀ x ∈ ss, 0 ≤ x ∧ x ≤ 5 := fun x hx => by have := hs x hx; omega
  have HI := hide (fun q : Nat => lead_any n ss a cap B2 B3 i (w.drewN q) hi' hn hs5 (hi.below (belN _ _)) h2 h3)
  have HJ := hide (fun q : Nat => lead_any n ss a cap B2 B3 j (w.drewN q) hj hn hs5 (hi.below (belN _ _)) h2 h3)
  obtain ⟨x, hx⟩ : ∃ x, leadV n ss (i : Int) = x := ⟨_, rfl⟩
  obtain ⟨y, hy⟩ : ∃ y, leadV n ss (j : Int) = y := ⟨_, rfl⟩
  rw [hx] at HI li ⊢
  rw [hy] at HJ lj ⊢
  have hw : IntKind.i64.wrap (y - x) = y - x := IntWalk.i64_in _ (by omega)
  clear hx hy hs hs5 hi
  go_enter Try.func127, Try.ntmps127
  go_wp2
  go_quiet (first
    | (go_at_call_of 125 (Value.int .i64 (j : Int)); exact quiet_add (HJ.out _))
    | (go_at_call_of 125 (Value.int .i64 (i : Int)); exact quiet_add (HI.out _)))
  go_wp2
  go_ret
  exact ⟨rfl, ⟨_, rfl⟩⟩

set_option maxHeartbeats 4000000 in
theorem stable_any (f : Int → Int) (g cap B : Nat) (l : List Int) (w : World) (hb : w.heap[g]? = some (.cells (l.map (Value.int .i64)).toArray 3 (0, 0))) (hl : l.length ≤ 4) (hpos : 0 < l.length)
    (hf : ∀ (x y : Int) (w' : World), x ∈ l → y ∈ l → w.grownBy w' (some g) → Calls Try.prog 127 #[.int .i64 x, .int .i64 y, .pointer (some ⟨B, 0, none⟩)] w' fun e w'' => e = .returned (.int .i64 (f y - f x)) ∧ ∃ m, w'' = w'.drewN m)
    (hbd : ∀ x ∈ l, 0 ≤ f x ∧ f x ≤ 16) :
    Calls Try.prog 126 #[.slice (some ⟨g, 0, none⟩) l.length cap, .func (.func 127) #[] #[.pointer (some ⟨B, 0, none⟩)]] w
      fun e w' => e = .returned (.tuple #[]) ∧ w'.heap[g]? = some (.cells ((insK f l (l.length - 1)).map (Value.int .i64)).toArray 3 (0, 0)) ∧ w.grownBy w' (some g) := by
  have H1 : Calls Try.prog 145 #[.slice (some ⟨g, 0, none⟩) l.length cap, .int .i64 (l.length : Nat), .func (.func 127) #[] #[.pointer (some ⟨B, 0, none⟩)]] w
      fun e w' => e = .returned (.tuple #[]) ∧ w'.heap[g]? = some (.cells ((insK f l (l.length - 1)).map (Value.int .i64)).toArray 3 (0, 0)) ∧ w.grownBy w' (some g) := by
    have HX := hide (insertion_any f g cap B l w hb hl hpos hf hbd)
    clear hf hbd hb
    go_enter Try.func145, Try.ntmps145
    go_wp2_with fail
    go_loopw [7, 8] (fun x y wr => x = .int .i64 0 ∧ y = .int .i64 20 ∧ wr = w) (fun _ _ _ => 0)
    case atStart => exact ⟨rfl, rfl, rfl⟩
    case round =>
      obtain ⟨rfl, rfl, rfl⟩ := hrel
      go_wp2_with fail
      refine HX.out.mono ?_
      rintro e w1 ⟨rfl, hb1, hg1⟩
      have HB := hide hb1
      have HG := hide hg1
      clear hb1 hg1
      go_wp2
      go_loopw [6] (fun x wr => x = .int .i64 20 ∧ wr = w1) (fun _ _ => 0)
      case atStart => exact ⟨rfl, rfl⟩
      case round =>
        obtain ⟨rfl, rfl⟩ := hrel
        go_wp2
        go_end0
        exact ⟨rfl, HB.out, HG.out⟩
  have HX := hide H1
  clear H1 hf hbd hb
  go_enter Try.func126, Try.ntmps126
  go_wp2_with fail
  refine HX.out.mono ?_
  rintro e w1 ⟨rfl, hb1, hg1⟩
  have HB := hide hb1
  have HG := hide hg1
  clear hb1 hg1
  go_wp2
  go_end0
  exact ⟨rfl, HB.out, HG.out⟩
end Go.Proofs.Ytccemllgglfgkaa
