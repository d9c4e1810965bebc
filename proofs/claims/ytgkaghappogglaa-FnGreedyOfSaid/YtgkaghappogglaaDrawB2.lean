/- The draws of the laws on ballots: seats, committees, names of claims and scores. -/
import Derived.Test.YtgkaghappogglaaDrawB
import Derived.Test.YtgkaghappogglaaCom
namespace Go.Proofs.Ytgkaghappogglaa
open Go.RowKit Go.Joins

/-- What a draw of a number leaves. -/
def IntPost (R n : Nat) (lo hi : Int) (w : World) (e : Ending) (w' : World) : Prop :=
  ∃ k : Int, e = .returned (.int .i64 k) ∧ (lo ≤ k ∧ k ≤ hi) ∧ w.grownBy w' (some R) ∧ RD w' R n
set_option maxHeartbeats 1000000 in
theorem seatsOf_any (R n : Nat) (c : Int) (w : World) (hr : RD w R n) (hn : n < 1073730000) (hc : 0 ≤ c ∧ c ≤ 6) :
    Calls Try.prog 67 #[.pointer (some ⟨R, 0, none⟩), .int .i64 c] w (IntPost R (n + 2) (-1) 7 w) := by
  obtain ⟨hc0, hc6⟩ := hc
  have hRw := hr.lt
  have HR := hide hr
  clear hr
  go_enter Try.func67, Try.ntmps67
  go_wp2_with fail
  refine (pick_any R n _ _ HR.out (by omega) ⟨by omega, by omega⟩).mono ?_
  rintro e w1 ⟨r, rfl, _, _, _, g1, rd1⟩
  have hw1 := g1.size
  by_cases e0 : (r == 0) = true
  · have hl1 : Ints (w1.alloc (.cells #[.int .i64 0, .int .i64 (c + 1), .int .i64 (-1)] 3)) (some ⟨w1.heap.size, 0, none⟩) [0, c + 1, -1] := lit w1 [0, c + 1, -1]
    have B1 := bel1 w1 (.cells #[.int .i64 0, .int .i64 (c + 1), .int .i64 (-1)] 3)
    have rd2 := rd1.below B1
    have HL := hide hl1
    clear hl1
    go_wp2_with fail
    refine (one_any R (n + 1) 3 _ _ _ rd2 (by omega) HL.out (by simp) (by simp) (fun b o s e => by cases e; omega)).mono ?_
    rintro e w2 ⟨x, hx, rfl, g2, rd3⟩
    have hx7 : -1 ≤ x ∧ x ≤ 7 := by simp at hx; omega
    clear hx
    go_wp2
    go_ret
    exact ⟨x, rfl, hx7, gpick (gbelow g1 (B1.mono hw1)) g2, rd3⟩
  · have e0 : (r == 0) = false := by simpa using e0
    have hmax : (c < 1 ∧ Hid (max c 1 = 1)) ∨ (¬ c < 1 ∧ Hid (max c 1 = c)) := by
      by_cases h : c < 1
      · exact .inl ⟨h, show max c 1 = 1 by omega⟩
      · exact .inr ⟨h, show max c 1 = c by omega⟩
    rcases hmax with ⟨hcc, _⟩ | ⟨hcc, _⟩
    all_goals
      go_wp2_with fail
      refine (pick_any R (n + 1) _ _ rd1 (by omega) ⟨by omega, by omega⟩).mono ?_
      rintro e w2 ⟨x, rfl, hx0, hxl, _, g2, rd3⟩
      have hx6 : x ≤ 6 := by have := hxl (by omega); omega
      clear hxl
      go_wp2
      go_ret
      exact ⟨1 + x, rfl, ⟨by omega, by omega⟩, gpick g1 g2, rd3⟩
/-- Ballots that a draw leaves, and what there was. -/
def DrawB0 (w : World) (e : Ending) (w' : World) : Prop :=
  ∃ (c : Int) (a : Option Addr) (bs : List Int) (cap : Nat), e = .returned (.tuple #[.int .i64 c, .slice a bs.length cap]) ∧ (0 ≤ c ∧ c ≤ 6) ∧ Ints w' a bs ∧ (bs.length ≤ 6 ∧ bs.length ≤ cap) ∧ Below w.heap.size w w'
theorem Owns.cap {w : World} {base n cap : Nat} {a : Option Addr} {zs : List Int} (h : Owns w base (.slice a n cap) zs) (hn : n = zs.length) : n ≤ cap := by
  have h' : w.ownsRow base 3 1 (.slice a n cap) zs.length (zs.map (Value.int .i64)) := h
  rcases h'.2 with ⟨e, h0⟩ | ⟨g, cap', cur, e, _, _, hnc, _⟩
  · simp only [Value.slice.injEq] at e; omega
  · simp only [Value.slice.injEq] at e; omega
theorem below_reader {w w1 w2 : World} {R : Nat} (B : Below w.heap.size w w1) (hR : w.heap.size ≤ R) (g : w1.grownBy w2 (some R)) : Below w.heap.size w w2 :=
  bgrown B g B.size (fun k hk => by cases hk; exact hR)
theorem drawVB_any (a : Option Addr) (cap : Nat) (zs : List Nat) (w : World) (hi : Byts w a zs) (hl : zs.length ≤ 1048576) (hc : zs.length ≤ cap) :
    Calls Try.prog 15 #[.slice a zs.length cap] w (DrawB0 w) := by
  go_enter Try.func15, Try.ntmps15
  go_wp2_with fail
  refine (newReader_any _ _ _ _ hi hl hc).mono ?_
  rintro e w1 ⟨R, rfl, hR, rd, B⟩
  go_wp2_with fail
  refine (ballotsOf_any R 0 _ rd (by omega)).mono ?_
  rintro e w2 ⟨c, v, bs, rfl, hc6, own, hbl, g, _⟩
  obtain ⟨av, cv, rfl, iv, _⟩ := own.form
  go_wp2
  go_ret2
  exact ⟨c, av, bs, cv, rfl, hc6, iv, ⟨hbl, own.cap rfl⟩, below_reader B hR g⟩
theorem drawAO_any (a : Option Addr) (cap : Nat) (zs : List Nat) (w : World) (hi : Byts w a zs) (hl : zs.length ≤ 1048576) (hc : zs.length ≤ cap) :
    Calls Try.prog 26 #[.slice a zs.length cap] w (DrawB0 w) := by
  go_enter Try.func26, Try.ntmps26
  go_wp2_with fail
  refine (newReader_any _ _ _ _ hi hl hc).mono ?_
  rintro e w1 ⟨R, rfl, hR, rd, B⟩
  go_wp2_with fail
  refine (ballotsOf_any R 0 _ rd (by omega)).mono ?_
  rintro e w2 ⟨c, v, bs, rfl, hc6, own, hbl, g, _⟩
  obtain ⟨av, cv, rfl, iv, _⟩ := own.form
  go_wp2
  go_ret2
  exact ⟨c, av, bs, cv, rfl, hc6, iv, ⟨hbl, own.cap rfl⟩, below_reader B hR g⟩
def DrawCK (w : World) (e : Ending) (w' : World) : Prop :=
  ∃ c k : Int, e = .returned (.tuple #[.int .i64 c, .int .i64 k]) ∧ (0 ≤ c ∧ c ≤ 6) ∧ (-1 ≤ k ∧ k ≤ 7) ∧ Below w.heap.size w w'
theorem drawCK_any (a : Option Addr) (cap : Nat) (zs : List Nat) (w : World) (hi : Byts w a zs) (hl : zs.length ≤ 1048576) (hc : zs.length ≤ cap) :
    Calls Try.prog 18 #[.slice a zs.length cap] w (DrawCK w) := by
  go_enter Try.func18, Try.ntmps18
  go_wp2_with fail
  refine (newReader_any _ _ _ _ hi hl hc).mono ?_
  rintro e w1 ⟨R, rfl, hR, rd, B⟩
  have hl1 : Ints (w1.alloc (.cells #[.int .i64 4, .int .i64 5, .int .i64 3, .int .i64 2, .int .i64 1, .int .i64 0, .int .i64 6] 3)) (some ⟨w1.heap.size, 0, none⟩) [4, 5, 3, 2, 1, 0, 6] := lit w1 [4, 5, 3, 2, 1, 0, 6]
  have rd2 := rd.below (bel1 w1 (.cells #[.int .i64 4, .int .i64 5, .int .i64 3, .int .i64 2, .int .i64 1, .int .i64 0, .int .i64 6] 3))
  have B2 := bnext B (bel1 w1 (.cells #[.int .i64 4, .int .i64 5, .int .i64 3, .int .i64 2, .int .i64 1, .int .i64 0, .int .i64 6] 3))
  have HL := hide hl1
  have hlt := rd.lt
  clear hl1
  go_wp2_with fail
  refine (one_any R 0 7 _ _ _ rd2 (by omega) HL.out (by simp) (by simp) (fun b o s e => by cases e; omega)).mono ?_
  rintro e w2 ⟨c, hc, rfl, g2, rd3⟩
  have hc6 : 0 ≤ c ∧ c ≤ 6 := by simp at hc; omega
  have B3 := below_reader B2 hR g2
  clear hc
  go_wp2_with fail
  refine (seatsOf_any R 1 c _ rd3 (by omega) hc6).mono ?_
  rintro e w3 ⟨k, rfl, hk, g3, _⟩
  go_wp2
  go_ret2
  exact ⟨c, k, rfl, hc6, hk, below_reader B3 hR g3⟩
def DrawL (w : World) (e : Ending) (w' : World) : Prop :=
  ∃ (a : Option Addr) (ls : List Int) (cap : Nat), e = .returned (.slice a ls.length cap) ∧ Ints w' a ls ∧ ls.length ≤ 6 ∧ Below w.heap.size w w'
set_option maxHeartbeats 1000000 in
theorem drawL_any (a : Option Addr) (cap : Nat) (zs : List Nat) (w : World) (hi : Byts w a zs) (hl : zs.length ≤ 1048576) (hc : zs.length ≤ cap) :
    Calls Try.prog 57 #[.slice a zs.length cap] w (DrawL w) := by
  obtain ⟨i0, hi0, hz0, hz1, hz2⟩ := info_parts info_int
  go_enter Try.func57, Try.ntmps57
  go_wp2_with fail
  refine (newReader_any _ _ _ _ hi hl hc).mono ?_
  rintro e w1 ⟨R, rfl, hR, rd, B⟩
  have V1 := hide (UI.new rd)
  have HB := hide B
  have HR := hide hR
  clear B rd hR hi
  go_wp2_with fail
  refine (pick_any R 0 _ _ V1.out.rd (by omega) ⟨by omega, by omega⟩).mono ?_
  rintro e w2 ⟨N, rfl, hN0, hNl, _, g2, rd2⟩
  have hN6 : N < 6 := hNl (by omega)
  have V2 := V1.out.pick g2 rd2
  clear V1 g2 rd2 hNl
  go_wp2
  go_loopw [4] (fun v wq => ∃ ls : List Int, (ls.length : Int) ≤ N ∧ UI R w1 (1 + ls.length) v ls wq) (fun v _ => lackOf 6 v)
  case atStart => exact ⟨[], by simp; omega, V2⟩
  case round =>
    clear V2
    obtain ⟨ls, hl6, hs⟩ := hrel
    obtain ⟨va, vc, rfl, _, _⟩ := hs.1.form
    have HS := hide hs
    clear hs
    by_cases hlt : (ls.length : Int) < N
    · have hl1 : Ints (wr.alloc (.cells #[.int .i64 0, .int .i64 1, .int .i64 2, .int .i64 3, .int .i64 4, .int .i64 0, .int .i64 2, .int .i64 5, .int .i64 (-1)] 3)) (some ⟨wr.heap.size, 0, none⟩) [0, 1, 2, 3, 4, 0, 2, 5, -1] := lit wr [0, 1, 2, 3, 4, 0, 2, 5, -1]
      have V3 := hide (HS.out.below (bel1 wr (.cells #[.int .i64 0, .int .i64 1, .int .i64 2, .int .i64 3, .int .i64 4, .int .i64 0, .int .i64 2, .int .i64 5, .int .i64 (-1)] 3)))
      have hlt2 := HS.out.rd.lt
      have HL := hide hl1
      clear hl1 HS
      go_wp2_with fail
      refine (one_any R _ 9 _ _ _ V3.out.rd (by omega) HL.out (by simp) (by simp) (fun b o s e => by cases e; omega)).mono ?_
      rintro e w4 ⟨z, _, rfl, g4, rd4⟩
      have V4 := hide (V3.out.pick g4 rd4)
      have hown := V4.out.1
      have hw4 := V4.out.2.2.2.1
      clear V3 g4 rd4
      go_wp2_with ((at_builtin; refine wpList_append_own _ rfl _ _ 23 rfl w1.heap.size 3 i0 (.int .i64 0) 1 8 Try.underlying23 hi0 hz0 hz1 hz2 rfl (by decide) _ _ _ rfl (hown.alloc _) ⟨w4.heap.size, 0, none⟩ 1 1 [.int .i64 z] rfl rfl (cell_one_new w4 _ _) (by intro u hu; simp at hu; subst hu; rfl) (by unfold maxLen; omega) (by omega) (by first | omega | (simp; omega)) ?_))
      intro v' wx hown' hgrow _
      have VX := V4.out.push hgrow hown'
      obtain ⟨zz, hzz⟩ : ∃ zz : List Int, zz = ls ++ [z] := ⟨_, rfl⟩
      rw [← hzz] at VX
      have hzl : zz.length = ls.length + 1 := by rw [hzz, List.length_append]; rfl
      obtain ⟨qa, qc, rfl, _⟩ := VX.1.form
      have HZ := hide hzl
      have HQ := hide VX
      clear hown hown' hgrow VX hzz hzl
      go_wp2
      go_roundw
      case rel => exact ⟨zz, by have := HZ.out; omega, HQ.out.more (by have := HZ.out; omega)⟩
      case measure => simp only [lackOf]; have := HZ.out; omega
    · go_wp2
      go_ret
      exact ⟨va, ls, vc, rfl, HS.out.1.ints, by omega, below_reader HB.out HR.out HS.out.2.1⟩
end Go.Proofs.Ytgkaghappogglaa
