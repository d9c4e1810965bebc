/- The law of IsEven answers true at every code: how many an even space are; its draw; its walk. -/
import Derived.Test.YtljbapfemjdneaaDrawL
import Derived.Test.YtljbapfemjdneaaParI
namespace Go.Proofs.Ytljbapfemjdneaa
open Go.RowKit Go.Joins

def ix (b : Bool) : Nat := if b then 1 else 0
theorem ix_eq {a b : Bool} (h : a = true ↔ b = true) : ix a = ix b := by
  cases a <;> cases b <;> simp_all [ix]
/-- 16 -/
def cnt (p : Nat → Bool) : Nat → Nat
  | 0 => 0
  | k + 1 => cnt p k + ix (p k)
theorem cnt16 (p : Nat → Bool) : cnt p 16 = ix (p 0) + ix (p 1) + ix (p 2) + ix (p 3) + ix (p 4) + ix (p 5) + ix (p 6) + ix (p 7) + ix (p 8) + ix (p 9) + ix (p 10) + ix (p 11) + ix (p 12) + ix (p 13) + ix (p 14) + ix (p 15) := by
  simp [cnt]
structure Sub (p : Nat → Bool) : Prop where
  zero : p 0 = true
  add : ∀ x y, x < 16 → y < 16 → p x = true → p y = true → p (x ^^^ y) = true
theorem Sub.eq {p : Nat → Bool} (h : Sub p) {i x : Nat} (hi : i < 16) (hx : x < 16) (hp : p i = true) : ix (p x) = ix (p (x ^^^ i)) := by
  refine ix_eq ⟨fun hx' => h.add x i hx hi hx' hp, fun hx' => ?_⟩
  have := h.add (x ^^^ i) i (Nat.xor_lt_two_pow (n := 4) hx hi) hi hx' hp
  rwa [Nat.xor_assoc, Nat.xor_self, Nat.xor_zero] at this
theorem ix_false {b : Bool} (h : ¬ b = true) : ix b = 0 := by simp [ix, h]
theorem ix_le (b : Bool) : ix b ≤ 1 := by cases b <;> simp [ix]
/-- the upper half is empty or as many as the lower one -/
theorem half3 {p : Nat → Bool} (h : Sub p) : (ix (p 8) + ix (p 9) + ix (p 10) + ix (p 11) + ix (p 12) + ix (p 13) + ix (p 14) + ix (p 15) = 0) ∨ (ix (p 8) + ix (p 9) + ix (p 10) + ix (p 11) + ix (p 12) + ix (p 13) + ix (p 14) + ix (p 15) = ix (p 0) + ix (p 1) + ix (p 2) + ix (p 3) + ix (p 4) + ix (p 5) + ix (p 6) + ix (p 7)) := by
  by_cases he : ∃ i, 8 ≤ i ∧ i < 16 ∧ p i = true
  · obtain ⟨i, h8, h16, hp⟩ := he
    right
    have e := fun x hx => h.eq (x := x) h16 hx hp
    have e0 := e 8 (by omega)
    have e1 := e 9 (by omega)
    have e2 := e 10 (by omega)
    have e3 := e 11 (by omega)
    have e4 := e 12 (by omega)
    have e5 := e 13 (by omega)
    have e6 := e 14 (by omega)
    have e7 := e 15 (by omega)
    clear e
    obtain rfl | rfl | rfl | rfl | rfl | rfl | rfl | rfl : i = 8 ∨ i = 9 ∨ i = 10 ∨ i = 11 ∨ i = 12 ∨ i = 13 ∨ i = 14 ∨ i = 15 := by omega
    all_goals
      simp only [Nat.reduceXor] at e0 e1 e2 e3 e4 e5 e6 e7
      omega
  · left
    have e := fun i h1 h2 => ix_false (b := p i) (fun h3 => he ⟨i, h1, h2, h3⟩)
    rw [e 8, e 9, e 10, e 11, e 12, e 13, e 14, e 15] <;> omega
theorem half2 {p : Nat → Bool} (h : Sub p) : (ix (p 4) + ix (p 5) + ix (p 6) + ix (p 7) = 0) ∨ (ix (p 4) + ix (p 5) + ix (p 6) + ix (p 7) = ix (p 0) + ix (p 1) + ix (p 2) + ix (p 3)) := by
  by_cases he : ∃ i, 4 ≤ i ∧ i < 8 ∧ p i = true
  · obtain ⟨i, h8, h16, hp⟩ := he
    right
    have e := fun x hx => h.eq (x := x) (show i < 16 by omega) hx hp
    have e0 := e 4 (by omega)
    have e1 := e 5 (by omega)
    have e2 := e 6 (by omega)
    have e3 := e 7 (by omega)
    clear e
    obtain rfl | rfl | rfl | rfl : i = 4 ∨ i = 5 ∨ i = 6 ∨ i = 7 := by omega
    all_goals
      simp only [Nat.reduceXor] at e0 e1 e2 e3
      omega
  · left
    have e := fun i h1 h2 => ix_false (b := p i) (fun h3 => he ⟨i, h1, h2, h3⟩)
    rw [e 4, e 5, e 6, e 7] <;> omega
theorem half1 {p : Nat → Bool} (h : Sub p) : (ix (p 2) + ix (p 3) = 0) ∨ (ix (p 2) + ix (p 3) = ix (p 0) + ix (p 1)) := by
  by_cases he : ∃ i, 2 ≤ i ∧ i < 4 ∧ p i = true
  · obtain ⟨i, h8, h16, hp⟩ := he
    right
    have e := fun x hx => h.eq (x := x) (show i < 16 by omega) hx hp
    have e0 := e 2 (by omega)
    have e1 := e 3 (by omega)
    clear e
    obtain rfl | rfl : i = 2 ∨ i = 3 := by omega
    all_goals
      simp only [Nat.reduceXor] at e0 e1
      omega
  · left
    have e := fun i h1 h2 => ix_false (b := p i) (fun h3 => he ⟨i, h1, h2, h3⟩)
    rw [e 2, e 3] <;> omega
theorem sub_count {p : Nat → Bool} (h : Sub p) : cnt p 16 = 1 ∨ cnt p 16 = 2 ∨ cnt p 16 = 4 ∨ cnt p 16 = 8 ∨ cnt p 16 = 16 := by
  have h3 := half3 h
  have h2 := half2 h
  have h1 := half1 h
  have h0 : ix (p 0) = 1 := by rw [h.zero]; rfl
  have h1' := ix_le (p 1)
  rw [cnt16]
  omega
theorem cnt_shift (p : Nat → Bool) (z : Nat) (hz : z < 16) : cnt (fun x => p (x ^^^ z)) 16 = cnt p 16 := by
  rw [cnt16, cnt16]
  obtain rfl | rfl | rfl | rfl | rfl | rfl | rfl | rfl | rfl | rfl | rfl | rfl | rfl | rfl | rfl | rfl : z = 0 ∨ z = 1 ∨ z = 2 ∨ z = 3 ∨ z = 4 ∨ z = 5 ∨ z = 6 ∨ z = 7 ∨ z = 8 ∨ z = 9 ∨ z = 10 ∨ z = 11 ∨ z = 12 ∨ z = 13 ∨ z = 14 ∨ z = 15 := by omega
  all_goals
    simp only [Nat.reduceXor]
    first | done | omega
theorem cnt_filter (p : Nat → Bool) : ∀ k, ((List.range k).filter p).length = cnt p k
  | 0 => rfl
  | k + 1 => by
    rw [List.range_succ, List.filter_append, List.length_append, cnt_filter p k, cnt]
    congr 1
    by_cases h : p k = true <;> simp [ix, h]

theorem validSpace_was (n : Int) (a : Option Addr) (cap : Nat) (zs : List Int) (w : World) (r : Bool) (hi : Ints w a zs) (hn : zs.length ≤ 1048576) (hr : vsB n zs = r) :
    Calls Try.prog 18 #[.agg #[.int .i64 n, .slice a zs.length cap]] w fun e w' => e = .returned (.bool r) ∧ Below w.heap.size w w' := by
  subst hr
  exact implValidSpace_any n a cap zs w hi hn

/-- an answer's cells and the reader behind it -/
def ES (R : Nat) (w : World) (n : Nat) (wq : World) : Prop :=
  wq.heap[w.heap.size]? = some (.cells #[.int .i64 0, .slice none 0 0] 25 (0, 0)) ∧ Below w.heap.size w wq ∧ RD wq R n ∧ w.heap.size < R
theorem ES.pick {R n k : Nat} {w wq w' : World} (h : ES R w n wq) (hg : wq.grownBy w' (some R)) (hr : RD w' R k) : ES R w k w' := by
  obtain ⟨h1, h2, _, h4⟩ := h
  exact ⟨(hg.block _ (lt_of_block h1) (by simp; omega)).trans h1, bgrown h2 hg h2.size (fun k hk => by cases hk; omega), hr, h4⟩
theorem ES.below {R n : Nat} {w wq w' : World} (h : ES R w n wq) (hb : Below wq.heap.size wq w') : ES R w n w' := by
  obtain ⟨h1, h2, h3, h4⟩ := h
  exact ⟨(hb.block _ (lt_of_block h1)).trans h1, h2.trans (hb.mono h2.size), h3.below hb, h4⟩
/-- a space under way in block B -/
def EI (w : World) (B : Nat) (m : Int) (vv : Value) (zs : List Int) (wq : World) : Prop :=
  wq.heap[w.heap.size]? = some (.cells #[.int .i64 0, .slice none 0 0] 25 (0, 0)) ∧ wq.heap[B]? = some (.cells #[.int .i64 m, vv] 25 (0, 0)) ∧ Owns wq (B + 1) vv zs ∧ Below w.heap.size w wq ∧ w.heap.size < B ∧ True ∧ B + 1 ≤ wq.heap.size
theorem EI.push {w : World} {B : Nat} {m z : Int} {vv v' : Value} {zs : List Int} {wq w5 : World} {o : Obj} (h : EI w B m vv zs wq) (hg : (wq.alloc o).grownBy w5 vv.ownBlock)
    (ho : w5.ownsRow (B + 1) 3 1 v' (zs.length + 1) (zs.map (Value.int .i64) ++ [.int .i64 z])) :
    EI w B m v' (zs ++ [z]) (w5.setCell ⟨B, 1, none⟩ v') ∧ w5.heap[B]? = some (.cells #[.int .i64 m, vv] 25 (0, 0)) := by
  obtain ⟨h1, h2, h3, h4, h5, _, h7⟩ := h
  have hb := bel1 wq o
  have h1' := (hb.block _ (lt_of_block h1)).trans h1
  have h2' := (hb.block _ (lt_of_block h2)).trans h2
  have h3' := h3.below hb
  have h4' := h4.trans (hb.mono h4.size)
  have hne : ∀ k, k < B + 1 → some k ≠ vv.ownBlock := fun k hk e => by
    have := own_ge h3' k e.symm
    omega
  have b1 := (hg.block _ (lt_of_block h2') (hne _ (by omega))).trans h2'
  refine ⟨⟨?_, block_setCell (i := 1) b1 _, (Owns.push ho).setBelow (p := ⟨B, 1, none⟩) (by show B < B + 1; omega) _, ?_, h5, trivial, ?_⟩, b1⟩
  · exact (Below.heap_setCell _ _ _ _ (by show w.heap.size ≠ B; omega)).trans ((hg.block _ (lt_of_block h1') (hne _ (by omega))).trans h1')
  · exact (bgrown h4' hg h4'.size (fun k hk => by have := own_ge h3' k hk; omega)).setCell (p := ⟨B, 1, none⟩) (by show w.heap.size ≤ B; omega) _
  · have := hg.size
    simp at this ⊢
    omega
/-- What a draw of a space alone leaves. -/
def DrawSCPost (w : World) (e : Ending) (w' : World) : Prop :=
  ∃ (m : Int) (a : Option Addr) (zs : List Int) (cap : Nat), e = .returned (.agg #[.int .i64 m, .slice a zs.length cap]) ∧ Ints w' a zs ∧ zs.length ≤ 65 ∧ zs.length ≤ cap ∧ Below w.heap.size w w'
theorem sc_done {w wq : World} {m : Int} {a : Option Addr} {cap base : Nat} {zs : List Int} (ho : Owns wq base (.slice a zs.length cap) zs) (hb : w.heap.size < base) (hl : zs.length ≤ 65) (B : Below w.heap.size w wq) (x y : Value) :
    DrawSCPost w (.returned (.agg #[.int .i64 m, .slice a zs.length cap])) ((wq.setCell ⟨w.heap.size, 0, none⟩ x).setCell ⟨w.heap.size, 1, none⟩ y) :=
  ⟨m, a, zs, cap, rfl, (ho.set2 (by omega) _ _).ints, hl, ho.cap, (B.setCell (p := ⟨w.heap.size, 0, none⟩) (Nat.le_refl _) _).setCell (p := ⟨w.heap.size, 1, none⟩) (Nat.le_refl _) _⟩
theorem lit4 (w : World) (a b c d : Int) : Ints (w.alloc (.cells #[.int .i64 a, .int .i64 b, .int .i64 c, .int .i64 d] 3)) (some ⟨w.heap.size, 0, none⟩) [a, b, c, d] := fun _ =>
  ⟨w.heap.size, 0, rfl, by simp, fun k hk => by
    match k, hk with
    | 0, _ => simp [go_sem]
    | 1, _ => simp [go_sem]
    | 2, _ => simp [go_sem]
    | 3, _ => simp [go_sem]⟩

set_option maxHeartbeats 4000000 in
set_option maxRecDepth 100000 in
theorem drawIsEven_any (a : Option Addr) (cap : Nat) (zs : List Nat) (w : World) (hi : Byts w a zs) (hl : zs.length ≤ 1048576) (hc : zs.length ≤ cap) :
    Calls Try.prog 26 #[.slice a zs.length cap] w (DrawSCPost w) := by
  obtain ⟨i0, hi0, hz0, hz1, hz2⟩ := info_parts info_int
  have h0 := heap_alloc_new w (.cells #[.int .i64 0, .slice none 0 0] 25)
  have b0 := bel1 w (.cells #[.int .i64 0, .slice none 0 0] 25)
  have hi1 := hi.below b0
  have H0 := hide h0
  have HB0 := hide b0
  clear hi h0 b0
  go_enter Try.func26, Try.ntmps26
  go_wp2_with fail
  refine (newReader_any _ _ _ _ hi1 hl hc).mono ?_
  rintro e w1 ⟨R, rfl, hR, rd, B⟩
  have E1 : Hid (ES R w 0 w1) := ⟨(B.block w.heap.size (by simp)).trans H0.out, bnext HB0.out B, rd, Nat.lt_of_succ_le (by simpa using hR)⟩
  clear hR B rd hi1 H0 HB0
  go_wp2_with fail
  refine (pick_any R 0 _ _ E1.out.2.2.1 (by omega) ⟨by omega, by omega⟩).mono ?_
  rintro e w2 ⟨r, rfl, _, _, _, g, rd⟩
  have E2 := hide (E1.out.pick g rd)
  clear g rd
  by_cases er : (r == 0) = true
  · have hl4 := lit4 w2 3 4 2 1
    have E3 := hide (E2.out.below (bel1 w2 (.cells #[.int .i64 3, .int .i64 4, .int .i64 2, .int .i64 1] 3)))
    have hRw : R < w2.heap.size := E2.out.2.2.1.lt
    have r3 := E3.out.2.2.1
    go_wp2_with fail
    have ho := one_any R (0 + 1) 4 _ _ _ r3 (by omega) hl4 (by simp) (by simp) (fun b o s e => by cases e; omega)
    refine ho.mono ?_
    rintro e w4 ⟨m, hm, rfl, g, rd⟩
    have E4 := hide (E3.out.pick g rd)
    have hm' : 1 ≤ m ∧ m ≤ 4 := by
      simp only [List.mem_cons, List.not_mem_nil, or_false] at hm
      omega
    have p1 := pw_pos m
    have p2 := pw_le m hm'.2
    clear ho hm g rd hl4 r3 hRw
    go_wp2_with (go_at_call 80; refine (power_any _ _ (by omega) (by omega)).mono ?_; rintro e w' ⟨rfl, rfl⟩)
    refine (pick_any R _ _ _ E4.out.2.2.1 (by omega) ⟨by omega, by omega⟩).mono ?_
    rintro e w5 ⟨a, rfl, ha0, hal, _, g, rd⟩
    have E5 := hide (E4.out.pick g rd)
    have ha1 : a < pw m := hal (by omega)
    clear g rd hal
    go_wp2_with (go_at_call 80; refine (power_any _ _ (by omega) (by omega)).mono ?_; rintro e w' ⟨rfl, rfl⟩)
    refine (pick_any R _ _ _ E5.out.2.2.1 (by omega) ⟨by omega, by omega⟩).mono ?_
    rintro e w6 ⟨b, rfl, hb0, hbl, _, g, rd⟩
    have E6 := hide (E5.out.pick g rd)
    have hb1 : b < pw m := hbl (by omega)
    clear g rd hbl
    go_wp2_with (go_at_call 80; refine (power_any _ _ (by omega) (by omega)).mono ?_; rintro e w' ⟨rfl, rfl⟩)
    refine (pick_any R _ _ _ E6.out.2.2.1 (by omega) ⟨by omega, by omega⟩).mono ?_
    rintro e w7 ⟨c, rfl, hc0, hcl, _, g, rd⟩
    have E7 := hide (E6.out.pick g rd)
    have hc1 : c < pw m := hcl (by omega)
    clear g rd hcl
    have hb8 := bel1 w7 (.cells #[.int .i64 m, .slice none 0 0] 25)
    have hn8 := heap_alloc_new w7 (.cells #[.int .i64 m, .slice none 0 0] 25)
    have hw7 : w.heap.size < w7.heap.size := lt_of_block E7.out.1
    have I0 : EI w w7.heap.size m (.slice none 0 0) [] (w7.alloc (.cells #[.int .i64 m, .slice none 0 0] 25)) :=
      ⟨(hb8.block _ hw7).trans E7.out.1, hn8, World.ownsRow_nil _ _ _ _, E7.out.2.1.trans (hb8.mono E7.out.2.1.size), hw7, trivial, by simp⟩
    have hp2 : pw m = ((2 ^ m.toNat : Nat) : Int) := rfl
    obtain ⟨q, hq⟩ : ∃ q, q = 2 ^ m.toNat := ⟨_, rfl⟩
    rw [← hq] at hp2
    have hq16 : q ≤ 16 := by omega
    clear hq hb8 hn8
    obtain ⟨B, hB⟩ : ∃ B, B = w7.heap.size := ⟨_, rfl⟩
    go_wp2_with fail
    rw [← hB] at I0 ⊢
    clear hB E1 E2 E3 E4 E5 E6 E7 hw7
    go_loopw [9] (fun v wq => ∃ (t : Nat) (vv : Value) (zs : List Int), t ≤ q ∧ zs.length ≤ t ∧ v = .int .i64 t ∧ EI w B m vv zs wq) (fun v _ => q - (intOf v).toNat)
    case atStart => exact ⟨0, _, [], Nat.zero_le _, Nat.le_refl _, rfl, I0⟩
    case round =>
      clear I0
      obtain ⟨t, vv, zs, ht, hzt, rfl, hs⟩ := hrel
      by_cases hlt : t < q
      · by_cases e0 : ((t : Int) == a) = true
        · obtain ⟨av, cv, rfl, iv, _⟩ := hs.2.2.1.form
          have g1 := cell_of_block hs.2.1 1
          have f1 := unfrozen_of_block hs.2.1 1
          have hws := hs.2.2.2.2.2.2
          have hown := hs.2.2.1
          have HS := hide hs
          clear iv hs
          go_wp2_with (first | (go_at_call 80; refine (power_any _ _ (by omega) (by omega)).mono ?_; rintro e w' ⟨rfl, rfl⟩) | (at_builtin; refine wpList_append_own _ rfl _ _ 23 rfl (B + 1) 3 i0 (.int .i64 0) 1 8 Try.underlying23 hi0 hz0 hz1 hz2 rfl (by decide) _ _ _ rfl (hown.alloc _) ⟨wr.heap.size, 0, none⟩ 1 1 [.int .i64 t] rfl rfl (cell_one_new wr _ _) (by intro u hu; simp at hu; subst hu; rfl) (by unfold maxLen; omega) (by omega) (by first | omega | (simp; omega)) ?_))
          intro v' w5 hown' hgrow _
          obtain ⟨HP, hb5⟩ := HS.out.push hgrow hown'
          obtain ⟨zz, hzz⟩ : ∃ zz : List Int, zz = zs ++ [(t : Int)] := ⟨_, rfl⟩
          rw [← hzz] at HP
          have hzl : zz.length ≤ t + 1 := by rw [hzz, List.length_append]; simp; omega
          obtain ⟨av', cv', rfl, _, _⟩ := HP.2.2.1.form
          have f5 := unfrozen_of_block hb5 1
          have g5 := cell_of_block hb5 1
          have HZ := hide hzl
          have HQ := hide HP
          clear hown hown' hgrow hb5 HP hzz hzl g1 f1 hws
          go_wp2
          go_roundw
          case rel => exact ⟨t + 1, _, zz, by omega, HZ.out, by go_num, HQ.out⟩
          case measure => simp only [intOf]; omega
        · have e0 : ((t : Int) == a) = false := by simpa using e0
          by_cases e1 : ((t : Int) == bits .xor .i64 a b) = true
          · obtain ⟨av, cv, rfl, iv, _⟩ := hs.2.2.1.form
            have g1 := cell_of_block hs.2.1 1
            have f1 := unfrozen_of_block hs.2.1 1
            have hws := hs.2.2.2.2.2.2
            have hown := hs.2.2.1
            have HS := hide hs
            clear iv hs
            go_wp2_with (first | (go_at_call 80; refine (power_any _ _ (by omega) (by omega)).mono ?_; rintro e w' ⟨rfl, rfl⟩) | (at_builtin; refine wpList_append_own _ rfl _ _ 23 rfl (B + 1) 3 i0 (.int .i64 0) 1 8 Try.underlying23 hi0 hz0 hz1 hz2 rfl (by decide) _ _ _ rfl (hown.alloc _) ⟨wr.heap.size, 0, none⟩ 1 1 [.int .i64 t] rfl rfl (cell_one_new wr _ _) (by intro u hu; simp at hu; subst hu; rfl) (by unfold maxLen; omega) (by omega) (by first | omega | (simp; omega)) ?_))
            intro v' w5 hown' hgrow _
            obtain ⟨HP, hb5⟩ := HS.out.push hgrow hown'
            obtain ⟨zz, hzz⟩ : ∃ zz : List Int, zz = zs ++ [(t : Int)] := ⟨_, rfl⟩
            rw [← hzz] at HP
            have hzl : zz.length ≤ t + 1 := by rw [hzz, List.length_append]; simp; omega
            obtain ⟨av', cv', rfl, _, _⟩ := HP.2.2.1.form
            have f5 := unfrozen_of_block hb5 1
            have g5 := cell_of_block hb5 1
            have HZ := hide hzl
            have HQ := hide HP
            clear hown hown' hgrow hb5 HP hzz hzl g1 f1 hws
            go_wp2
            go_roundw
            case rel => exact ⟨t + 1, _, zz, by omega, HZ.out, by go_num, HQ.out⟩
            case measure => simp only [intOf]; omega
          · have e1 : ((t : Int) == bits .xor .i64 a b) = false := by simpa using e1
            by_cases e2 : ((t : Int) == bits .xor .i64 a c) = true
            · obtain ⟨av, cv, rfl, iv, _⟩ := hs.2.2.1.form
              have g1 := cell_of_block hs.2.1 1
              have f1 := unfrozen_of_block hs.2.1 1
              have hws := hs.2.2.2.2.2.2
              have hown := hs.2.2.1
              have HS := hide hs
              clear iv hs
              go_wp2_with (first | (go_at_call 80; refine (power_any _ _ (by omega) (by omega)).mono ?_; rintro e w' ⟨rfl, rfl⟩) | (at_builtin; refine wpList_append_own _ rfl _ _ 23 rfl (B + 1) 3 i0 (.int .i64 0) 1 8 Try.underlying23 hi0 hz0 hz1 hz2 rfl (by decide) _ _ _ rfl (hown.alloc _) ⟨wr.heap.size, 0, none⟩ 1 1 [.int .i64 t] rfl rfl (cell_one_new wr _ _) (by intro u hu; simp at hu; subst hu; rfl) (by unfold maxLen; omega) (by omega) (by first | omega | (simp; omega)) ?_))
              intro v' w5 hown' hgrow _
              obtain ⟨HP, hb5⟩ := HS.out.push hgrow hown'
              obtain ⟨zz, hzz⟩ : ∃ zz : List Int, zz = zs ++ [(t : Int)] := ⟨_, rfl⟩
              rw [← hzz] at HP
              have hzl : zz.length ≤ t + 1 := by rw [hzz, List.length_append]; simp; omega
              obtain ⟨av', cv', rfl, _, _⟩ := HP.2.2.1.form
              have f5 := unfrozen_of_block hb5 1
              have g5 := cell_of_block hb5 1
              have HZ := hide hzl
              have HQ := hide HP
              clear hown hown' hgrow hb5 HP hzz hzl g1 f1 hws
              go_wp2
              go_roundw
              case rel => exact ⟨t + 1, _, zz, by omega, HZ.out, by go_num, HQ.out⟩
              case measure => simp only [intOf]; omega
            · have e2 : ((t : Int) == bits .xor .i64 a c) = false := by simpa using e2
              by_cases e3 : ((t : Int) == bits .xor .i64 (bits .xor .i64 a b) c) = true
              · obtain ⟨av, cv, rfl, iv, _⟩ := hs.2.2.1.form
                have g1 := cell_of_block hs.2.1 1
                have f1 := unfrozen_of_block hs.2.1 1
                have hws := hs.2.2.2.2.2.2
                have hown := hs.2.2.1
                have HS := hide hs
                clear iv hs
                go_wp2_with (first | (go_at_call 80; refine (power_any _ _ (by omega) (by omega)).mono ?_; rintro e w' ⟨rfl, rfl⟩) | (at_builtin; refine wpList_append_own _ rfl _ _ 23 rfl (B + 1) 3 i0 (.int .i64 0) 1 8 Try.underlying23 hi0 hz0 hz1 hz2 rfl (by decide) _ _ _ rfl (hown.alloc _) ⟨wr.heap.size, 0, none⟩ 1 1 [.int .i64 t] rfl rfl (cell_one_new wr _ _) (by intro u hu; simp at hu; subst hu; rfl) (by unfold maxLen; omega) (by omega) (by first | omega | (simp; omega)) ?_))
                intro v' w5 hown' hgrow _
                obtain ⟨HP, hb5⟩ := HS.out.push hgrow hown'
                obtain ⟨zz, hzz⟩ : ∃ zz : List Int, zz = zs ++ [(t : Int)] := ⟨_, rfl⟩
                rw [← hzz] at HP
                have hzl : zz.length ≤ t + 1 := by rw [hzz, List.length_append]; simp; omega
                obtain ⟨av', cv', rfl, _, _⟩ := HP.2.2.1.form
                have f5 := unfrozen_of_block hb5 1
                have g5 := cell_of_block hb5 1
                have HZ := hide hzl
                have HQ := hide HP
                clear hown hown' hgrow hb5 HP hzz hzl g1 f1 hws
                go_wp2
                go_roundw
                case rel => exact ⟨t + 1, _, zz, by omega, HZ.out, by go_num, HQ.out⟩
                case measure => simp only [intOf]; omega
              · have e3 : ((t : Int) == bits .xor .i64 (bits .xor .i64 a b) c) = false := by simpa using e3
                go_wp2_with (go_at_call 80; refine (power_any _ _ (by omega) (by omega)).mono ?_; rintro e w' ⟨rfl, rfl⟩)
                go_roundw
                case rel => exact ⟨t + 1, vv, zs, by omega, by omega, by go_num, hs⟩
                case measure => simp only [intOf]; omega
      · obtain rfl : t = q := by omega
        obtain ⟨av, cv, rfl, iv, _⟩ := hs.2.2.1.form
        have g0 := cell_of_block hs.2.1 0
        have g1 := cell_of_block hs.2.1 1
        have f0 := unfrozen_of_block hs.1 0
        have f1 := unfrozen_of_block hs.1 1
        have r0 := cell_of_block hs.1 0
        have r1 := cell_of_block hs.1 1
        have HS := hide hs
        clear iv hs
        go_wp2_with (go_at_call 80; refine (power_any _ _ (by omega) (by omega)).mono ?_; rintro e w' ⟨rfl, rfl⟩)
        refine bodyPost_ret (ret_space rfl _ _ _ _ _ rfl (block_setCell (i := 1) (block_setCell (i := 0) HS.out.1 _) _)) rfl ?_
        exact sc_done HS.out.2.2.1 (by have := HS.out.2.2.2.2.1; omega) (by omega) HS.out.2.2.2.1 _ _
  · have er : (r == 0) = false := by simpa using er
    have r2 := E2.out.2.2.1
    go_wp2_with fail
    refine (someSpace_any R (0 + 1) _ r2 (by omega)).mono ?_
    rintro e w3 ⟨m, v, ss, rfl, own, hsl, g, rd⟩
    obtain ⟨av, cv, rfl, _, _⟩ := own.form
    have E3 := hide (E2.out.pick g rd)
    have hw2 := hide (lt_of_block E2.out.1)
    have f0 := unfrozen_of_block E3.out.1 0
    have f1 := unfrozen_of_block E3.out.1 1
    have r0 := cell_of_block E3.out.1 0
    have r1 := cell_of_block E3.out.1 1
    have HO := hide own
    clear own g rd r2 E1
    go_wp2_with fail
    refine bodyPost_ret (ret_space rfl _ _ _ _ _ rfl (block_setCell (i := 1) (block_setCell (i := 0) E3.out.1 _) _)) rfl ?_
    exact sc_done HO.out hw2.out hsl E3.out.2.1 _ _

theorem even_count {n : Int} {zs : List Int} (h : closedB par n zs = true) : zs.length = 1 ∨ zs.length = 2 ∨ zs.length = 4 ∨ zs.length = 8 ∨ zs.length = 16 := by
  have hv : vsB n zs = true := by
    unfold closedB at h
    rw [Bool.and_eq_true] at h
    exact h.1
  have hV := valid_of hv
  have hc := (closed_iff join_par hV).1 h
  obtain ⟨hasc, hlt⟩ := valid_nat hV
  have hmem : ∀ t : Nat, t ∈ zs.map Int.toNat ↔ (t : Int) ∈ zs := fun t => by
    rw [List.mem_map]
    constructor
    · rintro ⟨y, hy, rfl⟩
      have := valid_range hV y hy
      rwa [Int.toNat_of_nonneg this.1]
    · intro ht
      exact ⟨t, ht, by simp⟩
  have h3 : ∀ x y z : Nat, x ∈ zs.map Int.toNat → y ∈ zs.map Int.toNat → z ∈ zs.map Int.toNat → (x ^^^ y ^^^ z) ∈ zs.map Int.toNat := fun x y z hx hy hz => by
    have at_ : ∀ t : Nat, t ∈ zs.map Int.toNat → ∃ i, i < zs.length ∧ zN zs i = t := fun t ht => by
      obtain ⟨i, hi, e⟩ := List.getElem_of_mem ((hmem t).1 ht)
      exact ⟨i, hi, by unfold zN; rw [getD_lt hi, e]; simp⟩
    obtain ⟨i, hi, rfl⟩ := at_ x hx
    obtain ⟨j, hj, rfl⟩ := at_ y hy
    obtain ⟨k, hk, rfl⟩ := at_ z hz
    exact (hmem _).2 (hc i j k hi hj hk)
  have hpos := hV.2.1
  have hz0m : (zs[0]).toNat ∈ zs.map Int.toNat := List.mem_map.2 ⟨zs[0], List.getElem_mem hpos, rfl⟩
  obtain ⟨z, hz⟩ : ∃ z, z = (zs[0]).toNat := ⟨_, rfl⟩
  rw [← hz] at hz0m
  have hz16 := hlt z hz0m
  have key : zs.length = cnt (fun x => (zs.map Int.toNat).contains x) 16 := by
    rw [← cnt_filter, asc_range_filter _ 16 hasc hlt, List.length_map]
  rw [key, ← cnt_shift _ z hz16]
  refine sub_count ⟨?_, fun x y hx hy h1 h2 => ?_⟩
  · rw [Nat.zero_xor]
    exact List.contains_iff_mem.2 hz0m
  · rw [List.contains_iff_mem] at h1 h2 ⊢
    have := h3 _ _ _ h1 h2 hz0m
    have e : x ^^^ z ^^^ (y ^^^ z) ^^^ z = x ^^^ y ^^^ z := by
      rw [Nat.xor_assoc x z, ← Nat.xor_assoc z y z, Nat.xor_comm z y, Nat.xor_assoc y z z, Nat.xor_self, Nat.xor_zero]
    rwa [e] at this
set_option maxHeartbeats 4000000 in
set_option maxRecDepth 100000 in
theorem walk_FnIsEven (a : Option Addr) (zs : List Nat) (cap : Nat) (w : World) (hi : Byts w a zs) (hl : zs.length ≤ maxLen) (hc : zs.length ≤ cap) :
    Calls Try.prog 5 #[.slice a zs.length cap] w fun e w' => e = .returned (.bool true) ∧ Below w.heap.size w w' := by
  by_cases h : 1048576 < zs.length
  · unfold maxLen at hl
    go_enter Try.func5, Try.ntmps5
    go_wp2
    go_ret
    exact ⟨rfl, Below.refl _ _⟩
  · have hl' : zs.length ≤ 1048576 := by omega
    clear h hl
    go_enter Try.func5, Try.ntmps5
    go_wp2_with fail
    refine (drawIsEven_any _ _ _ _ hi hl' hc).mono ?_
    rintro e w1 ⟨m, av, ss, cv, rfl, ii, hsl, hcap, hb⟩
    have S0 := SV.new w1 m av ss cv none [] 25 ii (Ints.nil _ _)
    have HB := hide hb
    have hn : ss.length ≤ 1048576 := by omega
    clear hb hi ii hl' hsl
    obtain ⟨⟨_, c0, c1⟩, _⟩ := S0.pair
    go_wp2_with fail
    refine (implIsEven_any _ _ _ _ _ S0.2.1 hn hcap).mono ?_
    rintro e w2 ⟨rfl, b2⟩
    have S2 := S0.below b2
    clear c0 c1 S0 b2
    obtain ⟨⟨_, c0, c1⟩, _⟩ := S2.pair
    have hne : (closedB par m ss != closedB par m ss) = false := by simp
    have heq : (closedB par m ss == closedB par m ss) = true := by simp
    go_wp2_with fail
    refine (specIsEven_any _ _ _ _ _ S2.2.1 hn).mono ?_
    rintro e w3 ⟨rfl, b3⟩
    have S3 := S2.below b3
    clear c0 c1 S2 b3
    obtain ⟨⟨_, c0, c1⟩, _⟩ := S3.pair
    by_cases hv : vsB m ss = true
    · go_wp2_with fail
      refine (validSpace_was _ _ _ _ _ true S3.2.1 hn hv).mono ?_
      rintro e w4 ⟨rfl, b4⟩
      have S4 := S3.below b4
      clear c0 c1 S3 b4 hne heq
      obtain ⟨⟨_, c0, c1⟩, _⟩ := S4.pair
      by_cases hE : closedB par m ss = true
      · have hcnt := even_count hE
        rw [hE]
        rcases hcnt with h1 | h1 | h1 | h1 | h1
        all_goals
          have hl1 : (ss.length : Int) = _ := congrArg (fun k : Nat => (k : Int)) h1
          have HL := hide hl1
          clear h1 hl1
          go_upto_region 8 with fail
          have hl1 := HL.out
          simp only [hl1]
          go_wp2
          go_ret
          exact ⟨rfl, bnext HB.out S4.2.2.2⟩
      · have hE : closedB par m ss = false := by simpa using hE
        rw [hE]
        go_wp2
        go_ret
        exact ⟨rfl, bnext HB.out S4.2.2.2⟩
    · have hv : vsB m ss = false := by simpa using hv
      go_wp2_with fail
      refine (validSpace_was _ _ _ _ _ false S3.2.1 hn hv).mono ?_
      rintro e w4 ⟨rfl, b4⟩
      have S4 := S3.below b4
      clear c0 c1 S3 b4 hv
      obtain ⟨⟨_, c0, c1⟩, _⟩ := S4.pair
      go_wp2_with fail
      refine (specIsEven_any _ _ _ _ _ S4.2.1 hn).mono ?_
      rintro e w5 ⟨rfl, b5⟩
      have S5 := S4.below b5
      go_wp2
      go_ret
      exact ⟨rfl, bnext HB.out S5.2.2.2⟩
end Go.Proofs.Ytljbapfemjdneaa
