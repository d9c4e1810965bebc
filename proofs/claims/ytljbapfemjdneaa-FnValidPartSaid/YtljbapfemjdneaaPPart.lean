/- The law of ValidPart answers true at every code: its walk. -/
import Derived.Test.YtljbapfemjdneaaDrawV
import Derived.Test.YtljbapfemjdneaaOpenI
import Derived.Deep.RegionHeld3
namespace Go.Proofs.Ytljbapfemjdneaa
open Go.RowKit Go.Joins

theorem implIsOpen_is (n : Int) (a : Option Addr) (cap : Nat) (zs : List Int) (c b : Int) (w : World) (r : Bool) (hi : Ints w a zs) (hn : zs.length ≤ 1048576) (wb : (Lit.int .i64 b).wf = true) (hr : opB n zs c b = r) :
    Calls Try.prog 25 #[.agg #[.int .i64 n, .slice a zs.length cap], .agg #[.int .i64 c, .int .i64 b]] w fun e w' => e = .returned (.bool r) ∧ Below w.heap.size w w' := by
  subst hr
  exact implIsOpen_any n a cap zs c b w hi hn wb
/-- the part of a judgment is open -/
theorem open_first {n : Int} {zs : List Int} {c b : Int} (h : vpB n zs c b = true) :
    (bits .and .i64 b c == b) = true ∧ opB n zs c (bits .and .i64 (zs.getD 0 0) c) = true ∧ (0 ≤ bits .and .i64 (zs.getD 0 0) c ∧ bits .and .i64 (zs.getD 0 0) c ≤ 15) := by
  obtain ⟨hV, hP⟩ := vp_of h
  have p2 := pw_le n hV.1.2
  have hr := valid_range hV
  have hpos := hV.2.1
  obtain ⟨hc, hb, he⟩ := hP
  have hz : zs.getD 0 0 ∈ zs := by rw [getD_lt hpos]; exact List.getElem_mem hpos
  have hz' := hr _ hz
  have hz1 := (hV.2.2 0 hpos).1
  have hlt : (pw n : Int) = ((2 ^ n.toNat : Nat) : Int) := rfl
  obtain ⟨cc, rfl⟩ := Int.eq_ofNat_of_zero_le hc.1
  obtain ⟨bb, rfl⟩ := Int.eq_ofNat_of_zero_le hb.1
  obtain ⟨z, hzz⟩ := Int.eq_ofNat_of_zero_le hz'.1
  rw [hzz] at hz hz' hz1 ⊢
  have e1 : bits .and .i64 (bb : Int) (cc : Int) = ((bb &&& cc : Nat) : Int) := and_small bb cc (by omega) (by omega)
  have e2 : bits .and .i64 (z : Int) (cc : Int) = ((z &&& cc : Nat) : Int) := and_small z cc (by omega) (by omega)
  have he' : bb &&& cc = bb := by simpa using he
  have hle : z &&& cc ≤ cc := Nat.and_le_right
  refine ⟨?_, ?_, ?_⟩
  · rw [e1, he']
    simp
  · rw [e2]
    have hP' : ptB n (cc : Int) ((z &&& cc : Nat) : Int) = true := by
      refine ptB_true ⟨hc, ⟨by omega, ?_⟩, ?_⟩
      · have := hc.2
        omega
      · rw [Int.toNat_natCast, Int.toNat_natCast, Nat.and_assoc, Nat.and_self]
    have hvp : vpB n zs (cc : Int) ((z &&& cc : Nat) : Int) = true := by rw [vpB_true (vsB_true hV)]; exact hP'
    rw [opB_true hvp]
    obtain ⟨j, hj, ej⟩ := List.getElem_of_mem hz
    refine openB_true hj ?_
    rw [ej, ← hp_and (x := ((z : Nat) : Int)) ⟨by omega, by omega⟩ ⟨by omega, by omega⟩ (by omega), e2]
    simp
  · rw [e2]
    omega

set_option maxHeartbeats 4000000 in
set_option maxRecDepth 100000 in
theorem walk_FnValidPart (a : Option Addr) (zs : List Nat) (cap : Nat) (w : World) (hi : Byts w a zs) (hl : zs.length ≤ maxLen) (hc : zs.length ≤ cap) :
    Calls Try.prog 4 #[.slice a zs.length cap] w fun e w' => e = .returned (.bool true) ∧ Below w.heap.size w w' := by
  by_cases h : 1048576 < zs.length
  · unfold maxLen at hl
    go_enter Try.func4, Try.ntmps4
    go_wp2
    go_ret
    exact ⟨rfl, Below.refl _ _⟩
  · have hl' : zs.length ≤ 1048576 := by omega
    clear h hl
    go_enter Try.func4, Try.ntmps4
    go_wp2_with fail
    refine (drawValidPart_any _ _ _ _ hi hl' hc).mono ?_
    rintro e w1 ⟨m, av, ss, cv, c, b, rfl, ii, hsl, hbb, hb⟩
    have S0 := (SV.new w1 m av ss cv none [] 25 ii (Ints.nil _ _)).below (bel1 _ (.cells #[.int .i64 c, .int .i64 b] 35))
    have P0 := PBox.new (w1.alloc (.cells #[.int .i64 m, .slice av ss.length cv] 25)) c b 35
    simp only [World.size_alloc] at P0
    have HB := hide hb
    have wb := hide (WalkArith.wf_i64 (n := b) ⟨by omega, by omega⟩)
    have hn : ss.length ≤ 1048576 := by omega
    have hne : (vpB m ss c b != vpB m ss c b) = false := by simp
    have heq : (vpB m ss c b == vpB m ss c b) = true := by simp
    clear hb hi ii hl' hsl hbb
    obtain ⟨⟨_, c0, c1⟩, _⟩ := S0.pair
    have ⟨_, p0, p1⟩ := P0
    go_wp2_with fail
    refine (implValidPart_any _ _ _ _ _ _ _ S0.2.1 hn wb.out).mono ?_
    rintro e w2 ⟨rfl, b2⟩
    have S2 := S0.below b2
    have P2 := P0.below b2
    clear c0 c1 p0 p1 S0 P0 b2
    obtain ⟨⟨_, c0, c1⟩, _⟩ := S2.pair
    have ⟨_, p0, p1⟩ := P2
    go_wp2_with fail
    refine (specValidPart_any _ _ _ _ _ _ _ S2.2.1 hn).mono ?_
    rintro e w3 ⟨rfl, b3⟩
    have S3 := S2.below b3
    have P3 := P2.below b3
    clear c0 c1 p0 p1 S2 P2 b3
    obtain ⟨⟨_, c0, c1⟩, iz, _⟩ := S3.pair
    have ⟨_, p0, p1⟩ := P3
    by_cases hv : vpB m ss c b = true
    · obtain ⟨hE, hO, hrg⟩ := open_first hv
      have hpos := (vp_of hv).1.2.1
      have wb' := hide (WalkArith.wf_i64 (n := bits .and .i64 (ss.getD 0 0) c) ⟨by omega, by omega⟩)
      obtain ⟨bz, oz, rfl, hbl, hcz⟩ := iz hpos
      have z0 := hcz 0 hpos
      rw [Nat.add_zero] at z0
      obtain ⟨y0, hy0⟩ : ∃ y0, y0 = ss.getD 0 0 := ⟨_, rfl⟩
      rw [← hy0] at z0 hO wb'
      have HS := hide S3
      have HO := hide hO
      clear hcz iz hrg hy0 heq S3 P3 hO
      go_upto_region 7 with fail
      go_region_held3 (fun w' => w'.cell? ⟨w1.heap.size, 0, none⟩ = some (.int .i64 m) ∧ w'.cell? ⟨w1.heap.size, 1, none⟩ = some (.slice (some ⟨bz, oz, none⟩) ss.length cv) ∧ w'.cell? ⟨w1.heap.size + 1, 0, none⟩ = some (.int .i64 c) ∧ w'.cell? ⟨w1.heap.size + 1, 1, none⟩ = some (.int .i64 b) ∧ w'.cell? ⟨bz, oz, none⟩ = some (.int .i64 y0))
        (first | go_keep | (exact HK.out))
        ((go_at_call 25; refine (implIsOpen_is _ _ _ _ _ _ _ true HS.out.drew.2.1 hn wb'.out HO.out).mono ?_; rintro e w5 ⟨rfl, b5⟩; have S5 := HS.out.drew.below b5; have HK := hide (show w5.cell? ⟨w1.heap.size, 0, none⟩ = some (.int .i64 m) ∧ w5.cell? ⟨w1.heap.size, 1, none⟩ = some (.slice (some ⟨bz, oz, none⟩) ss.length cv) ∧ w5.cell? ⟨w1.heap.size + 1, 0, none⟩ = some (.int .i64 c) ∧ w5.cell? ⟨w1.heap.size + 1, 1, none⟩ = some (.int .i64 b) ∧ w5.cell? ⟨bz, oz, none⟩ = some (.int .i64 y0) from ⟨(b5.cell (p := ⟨w1.heap.size, 0, none⟩) (World.block_lt_of_cell? _ _ (by assumption))).trans (by assumption), (b5.cell (p := ⟨w1.heap.size, 1, none⟩) (World.block_lt_of_cell? _ _ (by assumption))).trans (by assumption), (b5.cell (p := ⟨w1.heap.size + 1, 0, none⟩) (World.block_lt_of_cell? _ _ (by assumption))).trans (by assumption), (b5.cell (p := ⟨w1.heap.size + 1, 1, none⟩) (World.block_lt_of_cell? _ _ (by assumption))).trans (by assumption), (b5.cell (p := ⟨bz, oz, none⟩) (World.block_lt_of_cell? _ _ (by assumption))).trans (by assumption)⟩)))
      go_wp2
      go_ret
      exact ⟨rfl, bnext HB.out S5.2.2.2⟩
    · have hv : vpB m ss c b = false := by simpa using hv
      have heq' : (false == false) = true := rfl
      clear hne heq iz
      rw [hv]
      go_wp2_with fail
      refine (specValidPart_any _ _ _ _ _ _ _ S3.2.1 hn).mono ?_
      rintro e w4 ⟨rfl, b4⟩
      have S4 := S3.below b4
      rw [hv]
      go_wp2
      go_ret
      exact ⟨rfl, bnext HB.out S4.2.2.2⟩
end Go.Proofs.Ytljbapfemjdneaa
