/- Texts of this seat one behind the other: OwnP, Open, Gap, CrS. Conditions: none. -/
import Derived.Test.YtgebplpbnaeckaaGreatDoorMg03
import Derived.Test.YtgebplpbnaeckaaGreatDoorMg02
import Derived.Test.YtgebplpbnaeckaaGreatDoorMg01
import Derived.Deep.RegionHeld3
import Derived.Deep.QuietTactic
import Derived.BigQuiet

/- OwnP: A slice of parts that a call has made. -/
namespace Go.Proofs.YtgebplpbnaeckaaGreatDoor
open Go.RowKit Go.Joins

/-- the cells of parts -/
def pflat (ps : List (Int × Int)) : List Value := ps.flatMap fun p => [.int .i64 p.1, .int .i64 p.2]
theorem pflat_cons (p : Int × Int) (ps : List (Int × Int)) : pflat (p :: ps) = .int .i64 p.1 :: .int .i64 p.2 :: pflat ps := rfl
theorem pflat_len : ∀ ps : List (Int × Int), (pflat ps).length = ps.length * 2
  | [] => rfl
  | p :: ps => by rw [pflat_cons, List.length_cons, List.length_cons, pflat_len ps, List.length_cons]; omega
theorem pflat_snoc (ps : List (Int × Int)) (c b : Int) : pflat (ps ++ [(c, b)]) = pflat ps ++ [.int .i64 c, .int .i64 b] := by
  unfold pflat
  rw [List.flatMap_append]
  rfl
theorem pflat_get : ∀ (ps : List (Int × Int)) (k : Nat), k < ps.length → (pflat ps)[k * 2]? = some (.int .i64 (ps.getD k (0, 0)).1) ∧ (pflat ps)[k * 2 + 1]? = some (.int .i64 (ps.getD k (0, 0)).2)
  | [], k, h => by simp at h
  | p :: ps, 0, _ => ⟨rfl, rfl⟩
  | p :: ps, k + 1, h => by
    have := pflat_get ps k (by simpa using h)
    rw [pflat_cons, show (k + 1) * 2 = k * 2 + 1 + 1 from by omega]
    simpa using this
/-- v is a slice of parts that a call has made -/
def OwnsP (w : World) (base : Nat) (v : Value) (ps : List (Int × Int)) : Prop := w.ownsRow base 79 2 v ps.length (pflat ps)
theorem OwnsP.form {w : World} {base : Nat} {v : Value} {ps : List (Int × Int)} (h : OwnsP w base v ps) : ∃ a cap, v = .slice a ps.length cap ∧ PInts w a ps := by
  have h' : w.ownsRow base 79 2 v ps.length (pflat ps) := h
  rcases ownsRow_forms h' with ⟨rfl, h0⟩ | ⟨g, cap, rfl⟩
  · exact ⟨none, 0, by rw [h0], fun hz => by omega⟩
  · have hl := h'.lt g rfl
    refine ⟨_, cap, rfl, fun hz => ⟨g, 0, rfl, hl.2, fun k hk => ?_⟩⟩
    obtain ⟨e1, e2⟩ := pflat_get ps k hk
    rw [Nat.zero_add, h'.cellAt (k * 2) (by omega), h'.cellAt (k * 2 + 1) (by omega)]
    exact ⟨e1, e2⟩
theorem OwnsP.other {w w' : World} {base : Nat} {v : Value} {ps : List (Int × Int)} {row : Option Nat} (h : OwnsP w base v ps) (hg : w.grownBy w' row) (hne : ∀ g, row = some g → g < base) : OwnsP w' base v ps := by
  have h' : w.ownsRow base 79 2 v ps.length (pflat ps) := h
  refine World.ownsRow.kept h' hg ?_
  rcases hv : v.ownBlock with _ | g
  · exact .inl rfl
  · right
    intro e
    have h1 := (h'.lt g hv).1
    have h2 := hne g e.symm
    omega
theorem OwnsP.below {w w' : World} {base : Nat} {v : Value} {ps : List (Int × Int)} (h : OwnsP w base v ps) (hb : Below w.heap.size w w') : OwnsP w' base v ps :=
  h.other (row := none) ⟨hb.os, hb.tape, hb.output, hb.size, fun k hk _ => hb.block k hk⟩ (fun g e => by cases e)
theorem OwnsP.push {w : World} {base : Nat} {v : Value} {ps : List (Int × Int)} {c b : Int} (h : w.ownsRow base 79 2 v (ps.length + 1) (pflat ps ++ [.int .i64 c, .int .i64 b])) : OwnsP w base v (ps ++ [(c, b)]) := by
  unfold OwnsP
  rw [pflat_snoc, List.length_append]
  exact h
theorem OwnsP.empty (w : World) {base : Nat} (hb : base ≤ w.heap.size) : OwnsP (w.alloc (.cells #[] 79)) base (.slice (some ⟨w.heap.size, 0, none⟩) 0 0) [] :=
  ⟨rfl, .inr ⟨w.heap.size, 0, #[], rfl, hb, heap_alloc_new w _, Nat.le_refl _, by unfold maxLen; omega, rfl, rfl⟩⟩
theorem info_part : (Tryz.prog.info? 79).map (fun i => (i.zero, i.size, i.bytes)) = some (some (.agg #[.int .i64 0, .int .i64 0]), 2, 16) := by kernel_rfl
end Go.Proofs.YtgebplpbnaeckaaGreatDoor

/- Open: Whether a judgment has all answers of a part: the model's loop, the program's closures; IsOpen. -/
namespace Go.Proofs.YtgebplpbnaeckaaGreatDoor
open Go.RowKit Go.Joins

set_option maxHeartbeats 1000000 in
theorem open_any (n c b : Int) (a : Option Addr) (cap : Nat) (zs : List Int) (w : World) (hi : Ints w a zs) (hn : zs.length ≤ 1048576) (hr : ∀ x ∈ zs, 0 ≤ x ∧ x ≤ 15) (hc : 0 ≤ c ∧ c ≤ 15) (hb : 0 ≤ b) :
    Calls Tryz.prog 60 #[.agg #[.int .i64 n, .slice a zs.length cap], .agg #[.int .i64 c, .int .i64 b]] w fun e w' => e = .returned (.bool (openB zs c b)) ∧ Below w.heap.size w w' := by
  have HC := hide hc
  have HB := hide hb
  have HR := hide hr
  clear hc hb hr
  have bx := (Box.new w n a zs.length cap 37).below (bel1 (w.alloc (.cells #[.int .i64 n, .slice a zs.length cap] 37)) (.cells #[.int .i64 c, .int .i64 b] 79))
  have px := PBox.new (w.alloc (.cells #[.int .i64 n, .slice a zs.length cap] 37)) c b 79
  simp only [World.size_alloc] at px
  have ia := hi.below (bel2 w (.cells #[.int .i64 n, .slice a zs.length cap] 37) (.cells #[.int .i64 c, .int .i64 b] 79))
  clear hi
  go_enter Tryz.func60, Tryz.ntmps60
  go_wp2_with fail
  go_loopw [5] (fun i wr => ∃ k : Nat, k ≤ zs.length ∧ i = .int .i64 k ∧ (∀ j, j < k → hpB (zs.getD j 0) c b = false) ∧ Below (w.heap.size + 1 + 1) ((w.alloc (.cells #[.int .i64 n, .slice a zs.length cap] 37)).alloc (.cells #[.int .i64 c, .int .i64 b] 79)) wr) (fun i _ => zs.length - (intOf i).toNat)
  case atStart => exact ⟨0, Nat.zero_le _, rfl, fun j hj => by omega, Below.refl _ _⟩
  case round =>
    obtain ⟨k, hk, rfl, hall, hb⟩ := hrel
    have HA := hide hall
    clear hall
    obtain ⟨_, c0, c1⟩ := bx.below (by simpa only [World.size_alloc] using hb)
    obtain ⟨_, p0, p1⟩ := px.below (by simpa only [World.size_alloc] using hb)
    by_cases hlt : k < zs.length
    · obtain ⟨bb, off, rfl, hbl, hc⟩ := (ia.below (by simpa only [World.size_alloc] using hb)) (by omega)
      have hck := hc k hlt
      rw [getD_lt hlt] at hck
      have hp := hp_and (HR.out _ (mem_of_at hlt)) HC.out HB.out
      clear hc ia bx px
      by_cases he : hpB zs[k] c b = true
      · have hE : (bits .and .i64 zs[k] c == b) = true := by rw [hp]; exact he
        have HF := hide (openB_true hlt he)
        clear he hp
        go_wp2
        go_quiet (fail)
        go_wp2
        go_ret
        exact ⟨ret_bool HF.out.symm, ((bel2 w _ _).trans (hb.mono (by omega))).trans ((belN _ _).mono (by have := hb.size; simp at this; omega))⟩
      · have he : hpB zs[k] c b = false := by simpa using he
        have hE : (bits .and .i64 zs[k] c == b) = false := by rw [hp]; exact he
        have HE := hide he
        clear he hp
        go_wp2
        go_quiet (fail)
        go_wp2
        go_roundw
        case rel => exact ⟨k + 1, by omega, by go_num, fun j hj => by
          rcases Nat.lt_or_ge j k with h | h
          · exact HA.out j h
          · obtain rfl : j = k := by omega
            rw [getD_lt hlt]
            exact HE.out, hb.trans ((belN _ _).mono (by have := hb.size; simpa using this))⟩
        case measure => simp only [intOf]; omega
    · obtain rfl : k = zs.length := by omega
      go_wp2
      go_ret
      exact ⟨ret_bool (openB_false HA.out).symm, (bel2 w _ _).trans (hb.mono (by omega))⟩

theorem hasPart_any (x c b : Int) (w : World) (hx : 0 ≤ x ∧ x ≤ 15) (hc : 0 ≤ c ∧ c ≤ 15) (hb : 0 ≤ b) :
    Calls Tryz.prog 126 #[.int .i64 x, .agg #[.int .i64 c, .int .i64 b]] w fun e w' => e = .returned (.bool (hpB x c b)) ∧ Below w.heap.size w w' := by
  have hp := hide (hp_and hx hc hb)
  clear hx hc hb
  go_enter Tryz.func126, Tryz.ntmps126
  go_wp2_with fail
  go_ret
  exact ⟨ret_bool hp.out, bel1 w _⟩

theorem openAsker11_any (x c b : Int) (g : Nat) (w : World) (bx : PBox w g c b) (hx : 0 ≤ x ∧ x ≤ 15) (hc : 0 ≤ c ∧ c ≤ 15) (hb : 0 ≤ b) :
    Calls Tryz.prog 125 #[.int .i64 x, .pointer (some ⟨g, 0, none⟩)] w fun e w' => e = .returned (.bool (hpB x c b)) ∧ Below w.heap.size w w' := by
  obtain ⟨_, c0, c1⟩ := bx
  go_enter Tryz.func125, Tryz.ntmps125
  go_wp2_with fail
  refine (hasPart_any _ _ _ _ hx hc hb).mono ?_
  rintro e w1 ⟨rfl, h1⟩
  go_wp2
  go_ret
  exact ⟨rfl, h1⟩

/-- What slices.IndexFunc leaves. -/
def IdxFPost (zs : List Int) (c b : Int) (w : World) (e : Ending) (w' : World) : Prop :=
  ∃ r : Int, ((openB zs c b = true ∧ 0 ≤ r) ∨ (openB zs c b = false ∧ r = -1)) ∧ r ≤ 1048576 ∧ e = .returned (.int .i64 r) ∧ Below w.heap.size w w'

set_option maxHeartbeats 1000000 in
theorem indexFunc_any (c b : Int) (a : Option Addr) (cap g : Nat) (zs : List Int) (w : World) (hi : Ints w a zs) (hn : zs.length ≤ 1048576) (px : PBox w g c b) (hr : ∀ x ∈ zs, 0 ≤ x ∧ x ≤ 15) (hc : 0 ≤ c ∧ c ≤ 15) (hb : 0 ≤ b) :
    Calls Tryz.prog 156 #[.slice a zs.length cap, .func (.func 125) #[] #[.pointer (some ⟨g, 0, none⟩)]] w (IdxFPost zs c b w) := by
  have HC := hide hc
  have HB := hide hb
  have HR := hide hr
  clear hc hb hr
  go_enter Tryz.func156, Tryz.ntmps156
  go_wp2_with fail
  go_loopw [8] (fun i wr => ∃ k : Nat, k ≤ zs.length ∧ i = .int .i64 k ∧ (∀ j, j < k → hpB (zs.getD j 0) c b = false) ∧ Below w.heap.size w wr) (fun i _ => zs.length - (intOf i).toNat)
  case atStart => exact ⟨0, Nat.zero_le _, rfl, fun j hj => by omega, Below.refl _ _⟩
  case round =>
    obtain ⟨k, hk, rfl, hall, hb⟩ := hrel
    have HA := hide hall
    clear hall
    by_cases hlt : k < zs.length
    · obtain ⟨bb, off, rfl, hbl, hc⟩ := (hi.below hb) (by omega)
      have hck := hc k hlt
      rw [getD_lt hlt] at hck
      clear hc hi
      by_cases he : hpB zs[k] c b = true
      · have HF := hide (openB_true hlt he)
        have HE := hide he
        clear he
        go_wp2_with fail
        refine (openAsker11_any _ c b _ _ (px.below hb) (HR.out _ (mem_of_at hlt)) HC.out HB.out).mono ?_
        rintro e w1 ⟨rfl, h1⟩
        have he := HE.out
        go_wp2
        go_ret
        exact ⟨k, .inl ⟨HF.out, by omega⟩, by omega, rfl, bnext hb h1⟩
      · have he : hpB zs[k] c b = false := by simpa using he
        have HE := hide he
        clear he
        go_wp2_with fail
        refine (openAsker11_any _ c b _ _ (px.below hb) (HR.out _ (mem_of_at hlt)) HC.out HB.out).mono ?_
        rintro e w1 ⟨rfl, h1⟩
        have he := HE.out
        go_wp2
        go_roundw
        case rel => exact ⟨k + 1, by omega, by go_num, fun j hj => by
          rcases Nat.lt_or_ge j k with h | h
          · exact HA.out j h
          · obtain rfl : j = k := by omega
            rw [getD_lt hlt]
            exact HE.out, bnext hb h1⟩
        case measure => simp only [intOf]; omega
    · obtain rfl : k = zs.length := by omega
      go_wp2
      go_ret
      exact ⟨-1, .inr ⟨openB_false HA.out, rfl⟩, by omega, rfl, hb⟩

theorem containsFunc_any (c b : Int) (a : Option Addr) (cap g : Nat) (zs : List Int) (w : World) (hi : Ints w a zs) (hn : zs.length ≤ 1048576) (px : PBox w g c b) (hr : ∀ x ∈ zs, 0 ≤ x ∧ x ≤ 15) (hc : 0 ≤ c ∧ c ≤ 15) (hb : 0 ≤ b) :
    Calls Tryz.prog 124 #[.slice a zs.length cap, .func (.func 125) #[] #[.pointer (some ⟨g, 0, none⟩)]] w fun e w' => e = .returned (.bool (openB zs c b)) ∧ Below w.heap.size w w' := by
  by_cases hm : openB zs c b = true
  · have HM := hide hm
    clear hm
    go_enter Tryz.func124, Tryz.ntmps124
    go_wp2_with fail
    refine (indexFunc_any _ _ _ _ _ _ _ hi hn px hr hc hb).mono ?_
    rintro e w' ⟨r, hr, hr2, rfl, hb⟩
    have h0 : 0 ≤ r := by
      rcases hr with ⟨_, h⟩ | ⟨h, _⟩
      · exact h
      · rw [HM.out] at h; cases h
    clear hr
    go_wp2
    go_ret
    exact ⟨ret_bool HM.out.symm, hb⟩
  · have hm : openB zs c b = false := by simpa using hm
    have HM := hide hm
    clear hm
    go_enter Tryz.func124, Tryz.ntmps124
    go_wp2_with fail
    refine (indexFunc_any _ _ _ _ _ _ _ hi hn px hr hc hb).mono ?_
    rintro e w' ⟨r, hr, hr2, rfl, hb⟩
    have h0 : r < 0 := by
      rcases hr with ⟨h, _⟩ | ⟨_, h⟩
      · rw [HM.out] at h; cases h
      · omega
    clear hr
    go_wp2
    go_ret
    exact ⟨ret_bool (by rw [HM.out]; simp; omega), hb⟩

theorem openAsker1_any (n c b : Int) (a : Option Addr) (cap g : Nat) (zs : List Int) (w : World) (hi : Ints w a zs) (hn : zs.length ≤ 1048576) (bx : Box w g n a zs.length cap) (hr : ∀ x ∈ zs, 0 ≤ x ∧ x ≤ 15) (hc : 0 ≤ c ∧ c ≤ 15) (hb : 0 ≤ b) :
    Calls Tryz.prog 123 #[.agg #[.int .i64 c, .int .i64 b], .pointer (some ⟨g, 0, none⟩)] w fun e w' => e = .returned (.bool (openB zs c b)) ∧ Below w.heap.size w w' := by
  have ia := hi.below (bel1 w (.cells #[.int .i64 c, .int .i64 b] 79))
  have px := PBox.new w c b 79
  obtain ⟨_, c0, c1⟩ := bx
  clear hi
  have HR := hide hr
  have HC := hide hc
  have HB := hide hb
  clear hr hc hb
  go_enter Tryz.func123, Tryz.ntmps123
  go_wp2_with fail
  refine (containsFunc_any _ _ _ _ _ _ _ ia hn px HR.out HC.out HB.out).mono ?_
  rintro e w1 ⟨rfl, h1⟩
  go_wp2
  go_ret
  exact ⟨rfl, bnext (bel1 w _) h1⟩

theorem openAsker_any (n : Int) (a : Option Addr) (len cap : Nat) (w : World) : Calls Tryz.prog 101 #[.agg #[.int .i64 n, .slice a len cap]] w fun e w' =>
    e = .returned (.func (.func 123) #[] #[.pointer (some ⟨w.heap.size, 0, none⟩)]) ∧ w' = w.alloc (.cells #[.int .i64 n, .slice a len cap] 37) := by
  go_enter Tryz.func101, Tryz.ntmps101
  go_wp2_with fail
  go_ret
  exact ⟨rfl, rfl⟩

/-- what IsOpen answers -/
def opB (n : Int) (zs : List Int) (c b : Int) : Bool := vpB n zs c b && openB zs c b
theorem opB_false {n : Int} {zs : List Int} {c b : Int} (h : vpB n zs c b = false) : opB n zs c b = false := by unfold opB; rw [h]; rfl
theorem opB_true {n : Int} {zs : List Int} {c b : Int} (h : vpB n zs c b = true) : opB n zs c b = openB zs c b := by unfold opB; rw [h]; rfl
theorem vp_of {n : Int} {zs : List Int} {c b : Int} (h : vpB n zs c b = true) : Valid n zs ∧ IsPt n c b := by
  simpa [vpB, vsB, ptB] using h

end Go.Proofs.YtgebplpbnaeckaaGreatDoor

/- Gap: How many answers differ: the model's loop, and bits.OnesCount of a number below 16; GapOf. -/
namespace Go.Proofs.YtgebplpbnaeckaaGreatDoor
open Go.RowKit Go.Joins

theorem weight_any (x : Nat) (w : World) (hx : x < 16) : Calls Tryz.prog 47 #[.int .i64 x] w fun e w' => e = .returned (.int .i64 (wt x)) ∧ w = w' := by
  go_enter Tryz.func47, Tryz.ntmps47
  go_wp2_with fail
  go_loop [0, 3] (fun i o => ∃ m s : Nat, m < 16 ∧ s + wt m = wt x ∧ i = .int .i64 m ∧ o = .int .i64 s) (fun i _ => (intOf i).toNat)
  case atStart => exact ⟨x, 0, hx, by omega, rfl, rfl⟩
  case round =>
    obtain ⟨m, s, hm, he, rfl, rfl⟩ := hrel
    have hst := hide (wt_step m hm)
    have hle := wt_le x
    have hs : s ≤ 4 := by omega
    have HE := hide he
    clear he
    by_cases hlt : 0 < m
    · go_wp2
      go_round
      case rel => exact ⟨m / 2, s + m % 2, by omega, by have := HE.out; rw [hst.out] at this; omega, by go_num, by go_num⟩
      case measure => simp only [intOf]; omega
    · obtain rfl : m = 0 := by omega
      go_wp2
      go_ret
      exact ⟨ret_int (by have := HE.out; rw [wt_zero] at this; omega), rfl⟩

/-- what GapOf answers -/
def gapV (x y : Int) : Int := if (0 ≤ x ∧ x ≤ 15) ∧ (0 ≤ y ∧ y ≤ 15) then (wt (x.toNat ^^^ y.toNat) : Int) else -1

theorem gap_any (x y : Nat) (w : World) (hx : x < 16) (hy : y < 16) : Calls Tryz.prog 94 #[.int .i64 x, .int .i64 y] w fun e w' => e = .returned (.int .i64 (wt (x ^^^ y))) ∧ w = w' := by
  have hb := xor_small x y hx hy
  have hxy : x ^^^ y < 16 := Nat.xor_lt_two_pow (n := 4) hx hy
  go_enter Tryz.func94, Tryz.ntmps94
  go_wp2_with fail
  refine (weight_any _ _ hxy).mono ?_
  rintro e w' ⟨rfl, rfl⟩
  go_wp2
  go_ret
  exact ⟨rfl, rfl⟩

theorem pw_four : pw 4 = 16 := rfl

theorem onesCount64_any (x : Nat) (w : World) (hx : x < 16) : Calls Tryz.prog 155 #[.int .u64 x] w fun e w' => e = .returned (.int .i64 (wt x)) ∧ w = w' := by
  go_enter Tryz.func155, Tryz.ntmps155
  go_wp2_with fail
  go_ret
  refine ⟨ret_int ?_, rfl⟩
  rcases (show x = 0 ∨ x = 1 ∨ x = 2 ∨ x = 3 ∨ x = 4 ∨ x = 5 ∨ x = 6 ∨ x = 7 ∨ x = 8 ∨ x = 9 ∨ x = 10 ∨ x = 11 ∨ x = 12 ∨ x = 13 ∨ x = 14 ∨ x = 15 from by omega) with
    rfl | rfl | rfl | rfl | rfl | rfl | rfl | rfl | rfl | rfl | rfl | rfl | rfl | rfl | rfl | rfl
  all_goals decide +kernel

theorem onesCount_any (x : Nat) (w : World) (hx : x < 16) : Calls Tryz.prog 122 #[.int .u64 x] w fun e w' => e = .returned (.int .i64 (wt x)) ∧ w = w' := by
  go_enter Tryz.func122, Tryz.ntmps122
  go_wp2_with fail
  refine (onesCount64_any _ _ hx).mono ?_
  rintro e w' ⟨rfl, rfl⟩
  go_wp2
  go_ret
  exact ⟨rfl, rfl⟩

theorem implGapOf_any (x y : Int) (w : World) : Calls Tryz.prog 161 #[.int .i64 x, .int .i64 y] w fun e w' => e = .returned (.int .i64 (gapV x y)) ∧ w = w' := by
  have h4 := pw_four
  by_cases hx : 0 ≤ x ∧ x ≤ 15
  · have dx : decide (0 ≤ x ∧ x ≤ 15) = true := by simpa using hx
    by_cases hy : 0 ≤ y ∧ y ≤ 15
    · have dy : decide (0 ≤ y ∧ y ≤ 15) = true := by simpa using hy
      obtain ⟨a, rfl⟩ := Int.eq_ofNat_of_zero_le hx.1
      obtain ⟨b, rfl⟩ := Int.eq_ofNat_of_zero_le hy.1
      have HG : Hid (gapV a b = wt (a ^^^ b)) := by unfold Hid gapV; rw [if_pos ⟨hx, hy⟩]; rfl
      have ha : a < 16 := by omega
      have hb : b < 16 := by omega
      have hab : a ^^^ b < 16 := Nat.xor_lt_two_pow (n := 4) ha hb
      have hxor := xor_small a b ha hb
      have da : decide ((a : Int) ≤ 15) = true := by simp; omega
      have db : decide ((b : Int) ≤ 15) = true := by simp; omega
      clear hx hy dx dy
      have dx : decide (0 ≤ (a : Int) ∧ (a : Int) ≤ 15) = true := by simp; omega
      have dy : decide (0 ≤ (b : Int) ∧ (b : Int) ≤ 15) = true := by simp; omega
      go_enter Tryz.func161, Tryz.ntmps161
      go_wp2_with (first
        | (go_at_call 121; refine (isJudgment_any _ _ _ (by omega) (by omega)).mono ?_; rintro e w' ⟨rfl, rfl⟩)
        | (go_at_call 122; refine (onesCount_any _ _ hab).mono ?_; rintro e w' ⟨rfl, rfl⟩))
      go_ret
      exact ⟨ret_int HG.out.symm, rfl⟩
    · have dy : decide (0 ≤ y ∧ y ≤ 15) = false := by simpa using hy
      have HG : Hid (gapV x y = -1) := by unfold Hid gapV; rw [if_neg (fun h => hy h.2)]
      clear hx hy
      go_enter Tryz.func161, Tryz.ntmps161
      go_wp2_with (first
        | (go_at_call 121; refine (isJudgment_any _ _ _ (by omega) (by omega)).mono ?_; rintro e w' ⟨rfl, rfl⟩))
      go_ret
      exact ⟨ret_int HG.out.symm, rfl⟩
  · have dx : decide (0 ≤ x ∧ x ≤ 15) = false := by simpa using hx
    have HG : Hid (gapV x y = -1) := by unfold Hid gapV; rw [if_neg (fun h => hx h.1)]
    clear hx
    go_enter Tryz.func161, Tryz.ntmps161
    go_wp2_with (first
      | (go_at_call 121; refine (isJudgment_any _ _ _ (by omega) (by omega)).mono ?_; rintro e w' ⟨rfl, rfl⟩))
    go_ret
    exact ⟨ret_int HG.out.symm, rfl⟩


end Go.Proofs.YtgebplpbnaeckaaGreatDoor

/- CrS: The model's critical parts: its walk. -/
namespace Go.Proofs.YtgebplpbnaeckaaGreatDoor
open Go.RowKit Go.Joins

/-- the critical parts of fewer than s issues -/
def lv0 (n : Nat) (zs : List Int) (s : Nat) : List (Nat × Nat) := ((List.range s).flatMap (ordS n)).filter (crB n zs)
def lv1 (n : Nat) (zs : List Int) (s c : Nat) : List (Nat × Nat) := lv0 n zs s ++ ((List.range c).flatMap (ordC s)).filter (crB n zs)
def lv2 (n : Nat) (zs : List Int) (s c b : Nat) : List (Nat × Nat) := lv1 n zs s c ++ (((List.range b).filter fun b => b &&& c == b).map fun b => (c, b)).filter (crB n zs)
theorem lv1_zero (n : Nat) (zs : List Int) (s : Nat) : lv1 n zs s 0 = lv0 n zs s := by simp [lv1]
theorem lv2_zero (n : Nat) (zs : List Int) (s c : Nat) : lv2 n zs s c 0 = lv1 n zs s c := by simp [lv2]
theorem lv1_end (n : Nat) (zs : List Int) (s : Nat) : lv1 n zs s (2 ^ n) = lv0 n zs (s + 1) := by
  unfold lv1 lv0
  rw [List.range_succ, List.flatMap_append, List.filter_append]
  simp [ordS]
theorem lv0_end (n : Nat) (zs : List Int) : lv0 n zs (n + 1) = critL n zs := rfl
theorem lv2_end {n : Nat} {zs : List Int} {s c : Nat} (h : wt c = s) : lv2 n zs s c (c + 1) = lv1 n zs s (c + 1) := by
  unfold lv2 lv1
  rw [List.range_succ (n := c), List.flatMap_append, List.filter_append, List.append_assoc]
  simp only [List.flatMap_cons, List.flatMap_nil, List.append_nil, ordC, if_pos h, List.range_succ (n := c), List.filter_append, List.map_append]
theorem lv1_skip {n : Nat} {zs : List Int} {s c : Nat} (h : wt c ≠ s) : lv1 n zs s (c + 1) = lv1 n zs s c := by
  unfold lv1
  rw [List.range_succ (n := c), List.flatMap_append, List.filter_append]
  simp [ordC, if_neg h]
theorem lv2_yes {n : Nat} {zs : List Int} {s c b : Nat} (h : (b &&& c == b) = true) (hc : crB n zs (c, b) = true) : lv2 n zs s c (b + 1) = lv2 n zs s c b ++ [(c, b)] := by
  unfold lv2
  rw [List.range_succ, List.filter_append, List.map_append, List.filter_append, List.append_assoc]
  congr 2
  simp only [List.filter_cons, h, if_true, List.filter_nil, List.map_cons, List.map_nil, hc]
theorem lv2_off {n : Nat} {zs : List Int} {s c b : Nat} (h : (b &&& c == b) = false) : lv2 n zs s c (b + 1) = lv2 n zs s c b := by
  unfold lv2
  rw [List.range_succ, List.filter_append, List.map_append, List.filter_append]
  simp [h]
theorem lv2_no {n : Nat} {zs : List Int} {s c b : Nat} (hc : crB n zs (c, b) = false) : lv2 n zs s c (b + 1) = lv2 n zs s c b := by
  unfold lv2
  rw [List.range_succ, List.filter_append, List.map_append, List.filter_append]
  by_cases h : (b &&& c == b) = true
  · simp only [List.filter_cons, h, if_true, List.filter_nil, List.map_cons, List.map_nil, hc]
    simp
  · simp [h]
def ofP (l : List (Nat × Nat)) : List (Int × Int) := l.map fun p => ((p.1 : Int), (p.2 : Int))
/-- the least so far -/
def lstB (zs : List Int) (p : Nat × Nat) (j : Nat) : Bool := (List.range j).all fun j => bitN p.1 j == 0 || opn zs (lessP j p)
theorem lst_next {zs : List Int} {p : Nat × Nat} {j : Nat} : lstB zs p (j + 1) = (lstB zs p j && (bitN p.1 j == 0 || opn zs (lessP j p))) := by
  unfold lstB
  rw [List.range_succ, List.all_append]
  simp
/-- the list under way -/
def CI (w : World) (N : Nat) (a : Option Addr) (zs : List Int) (cap : Nat) (v : Value) (l : List (Nat × Nat)) (K : Nat) (wq : World) : Prop :=
  OwnsP wq (w.heap.size + 1) v (ofP l) ∧ l.length ≤ K ∧ SV w (N : Int) a zs cap none [] wq
theorem CI.below {w : World} {N : Nat} {a : Option Addr} {zs : List Int} {cap : Nat} {v : Value} {l : List (Nat × Nat)} {K : Nat} {wq w' : World} (h : CI w N a zs cap v l K wq) (hb : Below wq.heap.size wq w') : CI w N a zs cap v l K w' :=
  ⟨h.1.below hb, h.2.1, h.2.2.below hb⟩
theorem CI.to {w : World} {N : Nat} {a : Option Addr} {zs : List Int} {cap : Nat} {v : Value} {l l' : List (Nat × Nat)} {K K' : Nat} {wq : World} (h : CI w N a zs cap v l K wq) (e : l' = l) (hk : K ≤ K') : CI w N a zs cap v l' K' wq := by
  subst e
  exact ⟨h.1, Nat.le_trans h.2.1 hk, h.2.2⟩
theorem CI.cells {w : World} {N : Nat} {a : Option Addr} {zs : List Int} {cap : Nat} {v : Value} {l : List (Nat × Nat)} {K : Nat} {wq : World} (h : CI w N a zs cap v l K wq) : wq.cell? ⟨w.heap.size, 0, none⟩ = some (.int .i64 (N : Int)) ∧ wq.cell? ⟨w.heap.size, 1, none⟩ = some (.slice a zs.length cap) := ⟨h.2.2.1.2.1, h.2.2.1.2.2⟩
theorem CI.push {w : World} {N : Nat} {a : Option Addr} {zs : List Int} {cap : Nat} {v v' : Value} {l : List (Nat × Nat)} {K c b : Nat} {wq w5 : World} (h : CI w N a zs cap v l K wq) (hi0 : Ints w a zs) (hg : wq.grownBy w5 v.ownBlock)
    (ho : w5.ownsRow (w.heap.size + 1) 79 2 v' ((ofP l).length + 1) (pflat (ofP l) ++ [.int .i64 (c : Int), .int .i64 (b : Int)])) : CI w N a zs cap v' (l ++ [(c, b)]) (K + 1) w5 := by
  have hp' : wq.ownsRow (w.heap.size + 1) 79 2 v (ofP l).length (pflat (ofP l)) := h.1
  have hge : ∀ k, v.ownBlock = some k → w.heap.size + 1 ≤ k := fun k hk => (World.ownsRow.lt hp' k hk).1
  have e : ofP (l ++ [(c, b)]) = ofP l ++ [((c : Int), (b : Int))] := by simp [ofP]
  refine ⟨by rw [e]; exact OwnsP.push ho, by rw [List.length_append]; have := h.2.1; simpa using this, ?_⟩
  obtain ⟨⟨hl, q0, q1⟩, hi, hj, hb⟩ := h.2.2
  have hB := bgrown hb hg hb.size (fun k hk => by have := hge k hk; omega)
  refine ⟨⟨Nat.lt_of_lt_of_le hl hg.size, hg.cell q0 (fun e => ?_), hg.cell q1 (fun e => ?_)⟩, hi0.below hB, fun hz => by simp at hz, hB⟩
  · have := hge _ e.symm
    simp at this
    omega
  · have := hge _ e.symm
    simp at this
    omega
theorem bit_was (x j r : Nat) (w : World) (hx : x < 16) (hj : j ≤ 4) (h : bitN x j = r) : Calls Tryz.prog 46 #[.int .i64 x, .int .i64 j] w fun e w' => e = .returned (.int .i64 (r : Nat)) ∧ w = w' := by
  subst h
  exact bit_any x j w hx hj
theorem bit_le {c j : Nat} (h : bitN c j = 1) : 2 ^ j ≤ c := by
  rcases Nat.lt_or_ge c (2 ^ j) with h1 | h1
  · unfold bitN at h
    rw [Nat.div_eq_of_lt h1] at h
    simp at h
  · exact h1
theorem cr_lst {n : Nat} {zs : List Int} {p : Nat × Nat} (h : opn zs p = false) : crB n zs p = lstB zs p n := by
  unfold crB lstB
  rw [h]
  rfl
theorem weight_was (x : Nat) (s : Nat) (w : World) (hx : x < 16) (h : wt x = s) : Calls Tryz.prog 47 #[.int .i64 x] w fun e w' => e = .returned (.int .i64 (s : Nat)) ∧ w = w' := by
  subst h
  exact weight_any x w hx
theorem open_was (n : Int) (p : Nat × Nat) (c b : Int) (r : Bool) (hc : c = (p.1 : Int)) (hb : b = (p.2 : Int)) (a : Option Addr) (cap : Nat) (zs : List Int) (w : World) (hi : Ints w a zs) (hn : zs.length ≤ 1048576) (hr : ∀ x ∈ zs, 0 ≤ x ∧ x ≤ 15) (h1 : p.1 < 16) (h : opn zs p = r) :
    Calls Tryz.prog 60 #[.agg #[.int .i64 n, .slice a zs.length cap], .agg #[.int .i64 c, .int .i64 b]] w fun e w' => e = .returned (.bool r) ∧ Below w.heap.size w w' := by
  subst h hc hb
  exact open_any n _ _ a cap zs w hi hn hr ⟨by omega, by omega⟩ (by omega)
set_option maxHeartbeats 8000000 in
set_option maxRecDepth 100000 in
theorem critical_any (N : Nat) (a : Option Addr) (cap : Nat) (zs : List Int) (w : World) (hi : Ints w a zs) (hn : zs.length ≤ 1048576) (hN : 1 ≤ N ∧ N ≤ 4) (hr : ∀ x ∈ zs, 0 ≤ x ∧ x ≤ 15) :
    Calls Tryz.prog 36 #[.agg #[.int .i64 (N : Int), .slice a zs.length cap]] w fun e w' => ∃ v, e = .returned v ∧ OwnsP w' (w.heap.size + 1) v (ofP (critL N zs)) ∧ Below w.heap.size w w' := by
  obtain ⟨j0, hj0, hy0, hy1, hy2⟩ := info_parts info_part
  have C0 : CI w N a zs cap (.slice (some ⟨w.heap.size + 1, 0, none⟩) 0 0) [] 0 ((w.alloc (.cells #[.int .i64 (N : Int), .slice a zs.length cap] 37)).alloc (.cells #[] 79)) := by
    have he := OwnsP.empty (w.alloc (.cells #[.int .i64 (N : Int), .slice a zs.length cap] 37)) (base := w.heap.size + 1) (by simp)
    simp only [World.size_alloc] at he
    exact ⟨he, Nat.le_refl _, (SV.new w (N : Int) a zs cap none [] 37 hi (Ints.nil _ _)).below (bel1 _ _)⟩
  have HI := hide hi
  have HR := hide hr
  have p1 : pw (N : Int) = ((2 ^ N : Nat) : Int) := by unfold pw; rw [Int.toNat_natCast]
  have p2 : 2 ^ N ≤ 16 := Nat.pow_le_pow_right (n := 2) (by omega) hN.2
  obtain ⟨Q, hQ⟩ : ∃ Q, Q = 2 ^ N := ⟨_, rfl⟩
  rw [← hQ] at p1 p2
  have HQ := hide hQ
  have HP := hide p1
  clear hi hr p1 hQ
  go_enter Tryz.func36, Tryz.ntmps36
  go_wp2_with fail
  go_loopw [3, 4] (fun v i wq => ∃ s : Nat, s ≤ N + 1 ∧ i = .int .i64 s ∧ CI w N a zs cap v (lv0 N zs s) (s * 256) wq) (fun _ i _ => N + 1 - (intOf i).toNat)
  case atStart => exact ⟨0, Nat.zero_le _, rfl, C0.to rfl (Nat.zero_le _)⟩
  case round =>
    clear C0
    obtain ⟨s, hs, rfl, hc⟩ := hrel
    obtain ⟨va, vc, rfl, _⟩ := hc.1.form
    obtain ⟨c0, c1⟩ := hc.cells
    by_cases hlt : (s : Int) ≤ (N : Int)
    · have HC := hide (hc.to (lv1_zero N zs s) (Nat.le_refl _))
      clear hc
      go_wp2_with fail
      clear c0 c1
      go_loopw [3, 5] (fun v i wq => ∃ c : Nat, c ≤ Q ∧ i = .int .i64 c ∧ CI w N a zs cap v (lv1 N zs s c) (s * 256 + c * 16) wq) (fun _ i _ => Q - (intOf i).toNat)
      case atStart => exact ⟨0, Nat.zero_le _, rfl, HC.out⟩
      case round =>
        clear HC
        obtain ⟨c, hcq, rfl, hc⟩ := hrel
        obtain ⟨va, vc, rfl, _⟩ := hc.1.form
        obtain ⟨c0, c1⟩ := hc.cells
        by_cases hlc : c < Q
        · have HC := hide (hc.to (lv2_zero N zs s c) (Nat.le_refl _))
          clear hc
          go_wp2_with (go_at_call 45; refine (power_any _ _ (by omega) (by omega)).mono ?_; rintro e w' ⟨rfl, rfl⟩; rw [HP.out])
          clear c0 c1
          obtain ⟨wc, hwc⟩ : ∃ wc, wt c = wc := ⟨_, rfl⟩
          have HWC := hide hwc
          clear hwc
          go_loopw [3, 6] (fun v i wq => ∃ b : Nat, b ≤ c + 1 ∧ (wc = s ∨ b = 0) ∧ i = .int .i64 b ∧ CI w N a zs cap v (lv2 N zs s c b) (s * 256 + c * 16 + b) wq) (fun _ i _ => c + 1 - (intOf i).toNat)
          case atStart => exact ⟨0, Nat.zero_le _, Or.inr rfl, rfl, HC.out⟩
          case round =>
            clear HC
            obtain ⟨b, hb, hws, rfl, hc⟩ := hrel
            obtain ⟨va, vc, rfl, _⟩ := hc.1.form
            obtain ⟨c0, c1⟩ := hc.cells
            have HC := hide hc
            by_cases hbc : (b : Int) ≤ (c : Int)
            · by_cases hw : wc = s
              · have hwe : ((wc : Int) == (s : Int)) = true := by rw [hw]; simp
                have hand := hp_and (x := (b : Int)) (c := (c : Int)) (b := (b : Int)) ⟨by omega, by omega⟩ ⟨by omega, by omega⟩ (by omega)
                rw [hp_nat, Int.toNat_natCast] at hand
                have BX := bel1 wr (.cells #[.int .i64 (c : Int), .int .i64 (b : Int)] 79)
                have px := PBox.new wr (c : Int) (b : Int) 79
                have HC1 := hide (hc.below BX)
                have HPX := hide px
                clear hc
                cases he : (b &&& c == b) with
                | false =>
                  rw [he] at hand
                  have hne : (bits .and .i64 (b : Int) (c : Int) != (b : Int)) = true := by unfold bne; rw [hand]; rfl
                  go_wp2_with (go_at_call 47; refine (weight_was c wc _ (by omega) HWC.out).mono ?_; rintro e w' ⟨rfl, rfl⟩)
                  go_roundw
                  case rel => exact ⟨b + 1, by omega, Or.inl hw, by go_num, HC1.out.to (lv2_off he) (by omega)⟩
                  case measure => simp only [intOf]; omega
                | true =>
                  rw [he] at hand
                  have hne : (bits .and .i64 (b : Int) (c : Int) != (b : Int)) = false := by unfold bne; rw [hand]; rfl
                  have HE := hide he
                  obtain ⟨ob, hob⟩ : ∃ r, opn zs (c, b) = r := ⟨_, rfl⟩
                  have HOB := hide hob
                  obtain ⟨k0, k1⟩ := HC1.out.cells
                  obtain ⟨_, x0, x1⟩ := px
                  have ii := HC1.out.2.2.2.1
                  clear hob he hand c0 c1
                  go_wp2_with (go_at_call 47; refine (weight_was c wc _ (by omega) HWC.out).mono ?_; rintro e w' ⟨rfl, rfl⟩)
                  refine (open_was _ (c, b) _ _ ob rfl rfl _ _ _ _ ii hn HR.out (by show c < 16; omega) HOB.out).mono ?_
                  rintro e w5 ⟨rfl, b5⟩
                  have HC5 := hide (HC1.out.below b5)
                  have HP5 := hide (HPX.out.below b5)
                  clear k0 k1 x0 x1 ii b5
                  cases ob with
                  | true =>
                    have hcr : crB N zs (c, b) = false := by unfold crB; rw [HOB.out]; rfl
                    have HCR := hide hcr
                    clear hcr
                    go_wp2
                    go_roundw
                    case rel => exact ⟨b + 1, by omega, Or.inl hw, by go_num, HC5.out.to (lv2_no HCR.out) (by omega)⟩
                    case measure => simp only [intOf]; omega
                  | false =>
                    go_wp2_with fail
                    obtain ⟨g, hg⟩ : ∃ g, g = wr.heap.size := ⟨_, rfl⟩
                    rw [← hg] at HP5 ⊢
                    clear hg HPX HC1 BX
                    go_loopw [8, 9] (fun u i wq => ∃ (j : Nat) (B : Bool), j ≤ N ∧ i = .int .i64 j ∧ u = .bool B ∧ B = lstB zs (c, b) j ∧ CI w N a zs cap (.slice va (ofP (lv2 N zs s c b)).length vc) (lv2 N zs s c b) (s * 256 + c * 16 + b) wq ∧ PBox wq g (c : Int) (b : Int)) (fun _ i _ => N - (intOf i).toNat)
                    case atStart => exact ⟨0, true, Nat.zero_le _, rfl, rfl, rfl, HC5.out, HP5.out⟩
                    case round =>
                      clear HC5 HP5
                      obtain ⟨j, B, hj, rfl, rfl, hB, hc, px⟩ := hrel
                      have HBB := hide hB
                      obtain ⟨c0, c1⟩ := hc.cells
                      have HC6 := hide hc
                      have HP6 := hide px
                      clear hB hc
                      by_cases hlj : (j : Int) < (N : Int)
                      · clear px
                        rcases (show bitN c j = 0 ∨ bitN c j = 1 from by have := bitN_le c j; omega) with hbit | hbit
                        · have HBIT := hide hbit
                          have HNX : Hid (lstB zs (c, b) (j + 1) = B) := by unfold Hid; rw [lst_next, hbit, ← HBB.out]; simp
                          clear hbit
                          go_wp2_with (go_at_call 46; refine (bit_was c j 0 _ (by omega) (by omega) HBIT.out).mono ?_; rintro e w' ⟨rfl, rfl⟩)
                          go_roundw
                          case rel => exact ⟨j + 1, B, by omega, by go_num, rfl, HNX.out.symm, HC6.out, HP6.out⟩
                          case measure => simp only [intOf]; omega
                        · have HBIT := hide hbit
                          have hPc := bit_le hbit
                          have hPj : pw (j : Int) = ((2 ^ j : Nat) : Int) := by unfold pw; rw [Int.toNat_natCast]
                          obtain ⟨lo, hlo⟩ : ∃ r, opn zs (lessP j (c, b)) = r := ⟨_, rfl⟩
                          have hnx : lstB zs (c, b) (j + 1) = (B && lo) := by rw [lst_next, hbit, hlo, ← HBB.out]; simp
                          have HNX := hide hnx
                          have HLO := hide hlo
                          have hM := Nat.and_le_left (n := b) (m := 2 ^ j)
                          have hand2 := and_small b (2 ^ j) (by omega) (by omega)
                          have he1 : (lessP j (c, b)).1 = c - 2 ^ j := rfl
                          have he2 : (lessP j (c, b)).2 = b - (b &&& 2 ^ j) := rfl
                          have hq1 : 1 ≤ 2 ^ j := Nat.one_le_two_pow
                          obtain ⟨P, hP⟩ : ∃ P, P = 2 ^ j := ⟨_, rfl⟩
                          rw [← hP] at hPc hPj hM hand2 he1 he2 hq1
                          obtain ⟨M, hMM⟩ : ∃ M, M = b &&& P := ⟨_, rfl⟩
                          rw [← hMM] at hM hand2 he2
                          have HPJ := hide hPj
                          have HE1 := hide (show IntKind.i64.wrap ((c : Int) - (P : Int)) = (((lessP j (c, b)).1 : Nat) : Int) by rw [he1, IntKind.wrap_i64]; omega)
                          have HE2 := hide (show IntKind.i64.wrap ((b : Int) - (M : Int)) = (((lessP j (c, b)).2 : Nat) : Int) by rw [he2, IntKind.wrap_i64]; omega)
                          have HL16 := hide (show (lessP j (c, b)).1 < 16 by rw [he1]; omega)
                          clear hbit hPj hlo hnx he1 he2 hP hMM
                          cases B with
                          | false =>
                            go_wp2_with (go_at_call 46; refine (bit_was c j 1 _ (by omega) (by omega) HBIT.out).mono ?_; rintro e w' ⟨rfl, rfl⟩)
                            go_quiet (fail)
                            go_wp2
                            go_roundw
                            case rel => exact ⟨j + 1, false, by omega, by go_num, rfl, by rw [HNX.out]; rfl, HC6.out.below (belN _ _), HP6.out.below (belN _ _)⟩
                            case measure => simp only [intOf]; omega
                          | true =>
                            have HD6 := hide (HC6.out.below (bdrew' (Below.refl wr.heap.size wr)))
                            have HDP := hide (HP6.out.below (bdrew' (Below.refl wr.heap.size wr)))
                            have HCD := hide HD6.out.cells
                            have iid := HD6.out.2.2.2.1
                            go_upto_region 18 with (go_at_call 46; refine (bit_was c j 1 _ (by omega) (by omega) HBIT.out).mono ?_; rintro e w' ⟨rfl, rfl⟩)
                            go_region_held3 (fun w' => w'.cell? ⟨w.heap.size, 0, none⟩ = some (.int .i64 (N : Int)) ∧ w'.cell? ⟨w.heap.size, 1, none⟩ = some (.slice a zs.length cap))
                              (first | go_keep | exact HC8.out.cells | exact HCD.out)
                              (first
                                | (go_at_call 45; refine (power_any _ _ (by omega) (by omega)).mono ?_; rintro e w' ⟨rfl, rfl⟩; rw [HPJ.out])
                                | (go_at_call 60; refine (open_was _ (lessP j (c, b)) _ _ lo HE1.out HE2.out _ _ _ _ iid hn HR.out HL16.out HLO.out).mono ?_; rintro e w8 ⟨rfl, b8⟩; have HC8 := hide (HD6.out.below b8); have HP8 := hide (HDP.out.below b8); clear b8))
                            all_goals
                              go_wp2
                              go_roundw
                              case rel => exact ⟨j + 1, lo, by omega, by go_num, rfl, by rw [HNX.out]; rfl, HC8.out, HP8.out⟩
                              case measure => simp only [intOf]; omega
                      · obtain rfl : j = N := by omega
                        have hcr := (cr_lst (n := j) HOB.out).trans HBB.out.symm
                        have HCR := hide hcr
                        obtain ⟨hgl, x0, x1⟩ := px
                        clear hcr
                        cases B with
                        | false =>
                          go_wp2
                          go_roundw
                          case rel => exact ⟨b + 1, by omega, Or.inl hw, by go_num, HC6.out.to (lv2_no HCR.out) (by omega)⟩
                          case measure => simp only [intOf]; omega
                        | true =>
                          have hop := HC6.out.1
                          have hws : w.heap.size + 1 ≤ wr.heap.size := by have := HC6.out.2.2.1.1; omega
                          have hl2 := HC6.out.2.1
                          have hol : (ofP (lv2 j zs s c b)).length ≤ s * 256 + c * 16 + b := by unfold ofP; rw [List.length_map]; exact hl2
                          go_wp2_with ((at_builtin; refine wpList_append_own _ rfl _ _ 71 rfl (w.heap.size + 1) 79 j0 (.agg #[.int .i64 0, .int .i64 0]) 2 16 Tryz.underlying71 hj0 hy0 hy1 hy2 rfl (by decide) _ _ _ rfl (hop.alloc _) ⟨wr.heap.size, 0, none⟩ 1 1 [.int .i64 (c : Int), .int .i64 (b : Int)] rfl rfl (World.news_of_block (cs := #[.int .i64 (c : Int), .int .i64 (b : Int)]) (t := 79) (fr := (0, 0)) (heap_alloc_new wr _)) (by intro u hu; simp at hu; rcases hu with rfl | rfl <;> rfl) (by unfold maxLen; omega) (by omega) (by first | omega | (simp; omega)) ?_))
                          intro v' w6 hown' hgrow _
                          have V6 := (HC6.out.below (bel1 wr (.cells #[.int .i64 (c : Int), .int .i64 (b : Int)] 79))).push HI.out hgrow hown'
                          rw [← lv2_yes HE.out HCR.out] at V6
                          obtain ⟨qa, qc, rfl, _⟩ := V6.1.form
                          have HV6 := hide V6
                          clear hop hown' hgrow V6 x0 x1 c0 c1
                          go_wp2
                          go_roundw
                          case rel => exact ⟨b + 1, by omega, Or.inl hw, by go_num, HV6.out⟩
                          case measure => simp only [intOf]; omega
              · have hwe : ((wc : Int) == (s : Int)) = false := by rw [beq_eq_false_iff_ne]; omega
                have HB0 := hide (show b = 0 from hws.resolve_left hw)
                clear hc
                go_wp2_with (go_at_call 47; refine (weight_was c wc _ (by omega) HWC.out).mono ?_; rintro e w' ⟨rfl, rfl⟩)
                go_roundw
                case rel => exact ⟨c + 1, by omega, by go_num, HC.out.to (by rw [HB0.out, lv2_zero]; exact lv1_skip (by rw [HWC.out]; exact hw)) (by omega)⟩
                case measure => simp only [intOf]; omega
            · obtain rfl : b = c + 1 := by omega
              have hw : wc = s := hws.resolve_right (by omega)
              clear hc
              go_wp2_with fail
              go_roundw
              case rel => exact ⟨c + 1, by omega, by go_num, HC.out.to (lv2_end (by rw [HWC.out]; exact hw)).symm (by omega)⟩
              case measure => simp only [intOf]; omega
        · obtain rfl : c = Q := by omega
          have HC := hide (hc.to (l' := lv0 N zs (s + 1)) (K' := (s + 1) * 256) (by rw [HQ.out]; exact (lv1_end N zs s).symm) (by omega))
          clear hc
          go_wp2_with (go_at_call 45; refine (power_any _ _ (by omega) (by omega)).mono ?_; rintro e w' ⟨rfl, rfl⟩; rw [HP.out])
          go_roundw
          case rel => exact ⟨s + 1, by omega, by go_num, HC.out⟩
          case measure => simp only [intOf]; omega
    · obtain rfl : s = N + 1 := by omega
      have HC := hide hc
      clear hc
      go_wp2
      go_ret
      exact ⟨_, rfl, HC.out.1, HC.out.2.2.2.2.2⟩
end Go.Proofs.YtgebplpbnaeckaaGreatDoor
