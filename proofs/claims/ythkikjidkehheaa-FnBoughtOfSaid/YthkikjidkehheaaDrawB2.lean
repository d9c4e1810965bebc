/- The draws of the laws on ballots: seats, committees, names of claims and scores. -/
import Derived.Test.YthkikjidkehheaaDrawB
import Derived.Test.YthkikjidkehheaaCom
namespace Go.Proofs.Ythkikjidkehheaa
open Go.RowKit Go.Joins

/-- What a draw of a number leaves. -/
def IntPost (R n : Nat) (lo hi : Int) (w : World) (e : Ending) (w' : World) : Prop :=
  ∃ k : Int, e = .returned (.int .i64 k) ∧ (lo ≤ k ∧ k ≤ hi) ∧ w.grownBy w' (some R) ∧ RD w' R n
set_option maxHeartbeats 1000000 in
theorem seatsOf_any (R n : Nat) (c : Int) (w : World) (hr : RD w R n) (hn : n < 1073730000) (hc : 0 ≤ c ∧ c ≤ 6) :
    Calls Try.prog 39 #[.pointer (some ⟨R, 0, none⟩), .int .i64 c] w (IntPost R (n + 2) (-1) 7 w) := by
  obtain ⟨hc0, hc6⟩ := hc
  have hRw := hr.lt
  have HR := hide hr
  clear hr
  go_enter Try.func39, Try.ntmps39
  go_wp2_with fail
  refine (pick_any R n _ _ HR.out (by omega) ⟨by omega, by omega⟩).mono ?_
  rintro e w1 ⟨r, rfl, _, _, _, g1, rd1⟩
  have hw1 := g1.size
  by_cases e0 : (r == 0) = true
  · have hl1 : Ints (w1.alloc (.cells #[.int .i64 0, .int .i64 (c + 1), .int .i64 (-1)] 3)) (some ⟨w1.heap.size, 0, none⟩) [0, c + 1, -1] := lit w1 [0, c + 1, -1]
    have B1 := bel1 w1 (.cells #[.int .i64 0, .int .i64 (c + 1), .int .i64 (-1)] 3)
    have rd2 := rd1.below B1
    have HL := hide hl1
    clear hl1
    go_wp2_with fail
    refine (one_any R (n + 1) 3 _ _ _ rd2 (by omega) HL.out (by simp) (by simp) (fun b o s e => by cases e; omega)).mono ?_
    rintro e w2 ⟨x, hx, rfl, g2, rd3⟩
    have hx7 : -1 ≤ x ∧ x ≤ 7 := by simp at hx; omega
    clear hx
    go_wp2
    go_ret
    exact ⟨x, rfl, hx7, gpick (gbelow g1 (B1.mono hw1)) g2, rd3⟩
  · have e0 : (r == 0) = false := by simpa using e0
    have hmax : (c < 1 ∧ Hid (max c 1 = 1)) ∨ (¬ c < 1 ∧ Hid (max c 1 = c)) := by
      by_cases h : c < 1
      · exact .inl ⟨h, show max c 1 = 1 by omega⟩
      · exact .inr ⟨h, show max c 1 = c by omega⟩
    rcases hmax with ⟨hcc, _⟩ | ⟨hcc, _⟩
    all_goals
      go_wp2_with fail
      refine (pick_any R (n + 1) _ _ rd1 (by omega) ⟨by omega, by omega⟩).mono ?_
      rintro e w2 ⟨x, rfl, hx0, hxl, _, g2, rd3⟩
      have hx6 : x ≤ 6 := by have := hxl (by omega); omega
      clear hxl
      go_wp2
      go_ret
      exact ⟨1 + x, rfl, ⟨by omega, by omega⟩, gpick g1 g2, rd3⟩
/-- Ballots that a draw leaves, and what there was. -/
def DrawB0 (w : World) (e : Ending) (w' : World) : Prop :=
  ∃ (c : Int) (a : Option Addr) (bs : List Int) (cap : Nat), e = .returned (.tuple #[.int .i64 c, .slice a bs.length cap]) ∧ (0 ≤ c ∧ c ≤ 6) ∧ Ints w' a bs ∧ (bs.length ≤ 6 ∧ bs.length ≤ cap) ∧ Below w.heap.size w w'
theorem Owns.cap {w : World} {base n cap : Nat} {a : Option Addr} {zs : List Int} (h : Owns w base (.slice a n cap) zs) (hn : n = zs.length) : n ≤ cap := by
  have h' : w.ownsRow base 3 1 (.slice a n cap) zs.length (zs.map (Value.int .i64)) := h
  rcases h'.2 with ⟨e, h0⟩ | ⟨g, cap', cur, e, _, _, hnc, _⟩
  · simp only [Value.slice.injEq] at e; omega
  · simp only [Value.slice.injEq] at e; omega
theorem below_reader {w w1 w2 : World} {R : Nat} (B : Below w.heap.size w w1) (hR : w.heap.size ≤ R) (g : w1.grownBy w2 (some R)) : Below w.heap.size w w2 :=
  bgrown B g B.size (fun k hk => by cases hk; exact hR)
end Go.Proofs.Ythkikjidkehheaa
