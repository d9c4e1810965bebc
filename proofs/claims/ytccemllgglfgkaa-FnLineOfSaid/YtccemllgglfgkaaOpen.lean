/- Whether a judgment has all answers of a part: the model's loop, the program's closures; IsOpen. -/
import Derived.Test.YtccemllgglfgkaaPart
import Derived.Test.YtccemllgglfgkaaOpenB
namespace Go.Proofs.Ytccemllgglfgkaa
open Go.RowKit Go.Joins

set_option maxHeartbeats 1000000 in
theorem open_any (n c b : Int) (a : Option Addr) (cap : Nat) (zs : List Int) (w : World) (hi : Ints w a zs) (hn : zs.length ≤ 1048576) (hr : ∀ x ∈ zs, 0 ≤ x ∧ x ≤ 15) (hc : 0 ≤ c ∧ c ≤ 15) (hb : 0 ≤ b) :
    Calls Try.prog 116 #[.agg #[.int .i64 n, .slice a zs.length cap], .agg #[.int .i64 c, .int .i64 b]] w fun e w' => e = .returned (.bool (openB zs c b)) ∧ Below w.heap.size w w' := by
  have HC := hide hc
  have HB := hide hb
  have HR := hide hr
  clear hc hb hr
  have bx := (Box.new w n a zs.length cap 28).below (bel1 (w.alloc (.cells #[.int .i64 n, .slice a zs.length cap] 28)) (.cells #[.int .i64 c, .int .i64 b] 67))
  have px := PBox.new (w.alloc (.cells #[.int .i64 n, .slice a zs.length cap] 28)) c b 67
  simp only [World.size_alloc] at px
  have ia := hi.below (bel2 w (.cells #[.int .i64 n, .slice a zs.length cap] 28) (.cells #[.int .i64 c, .int .i64 b] 67))
  clear hi
  go_enter Try.func116, Try.ntmps116
  go_wp2_with fail
  go_loopw [5] (fun i wr => ∃ k : Nat, k ≤ zs.length ∧ i = .int .i64 k ∧ (∀ j, j < k → hpB (zs.getD j 0) c b = false) ∧ Below (w.heap.size + 1 + 1) ((w.alloc (.cells #[.int .i64 n, .slice a zs.length cap] 28)).alloc (.cells #[.int .i64 c, .int .i64 b] 67)) wr) (fun i _ => zs.length - (intOf i).toNat)
  case atStart => exact ⟨0, Nat.zero_le _, rfl, fun j hj => by omega, Below.refl _ _⟩
  case round =>
    obtain ⟨k, hk, rfl, hall, hb⟩ := hrel
    have HA := hide hall
    clear hall
    obtain ⟨_, c0, c1⟩ := bx.below (by simpa only [World.size_alloc] using hb)
    obtain ⟨_, p0, p1⟩ := px.below (by simpa only [World.size_alloc] using hb)
    by_cases hlt : k < zs.length
    · obtain ⟨bb, off, rfl, hbl, hc⟩ := (ia.below (by simpa only [World.size_alloc] using hb)) (by omega)
      have hck := hc k hlt
      rw [getD_lt hlt] at hck
      have hp := hp_and (HR.out _ (mem_of_at hlt)) HC.out HB.out
      clear hc ia bx px
      by_cases he : hpB zs[k] c b = true
      · have hE : (bits .and .i64 zs[k] c == b) = true := by rw [hp]; exact he
        have HF := hide (openB_true hlt he)
        clear he hp
        go_wp2
        go_quiet (fail)
        go_wp2
        go_ret
        exact ⟨ret_bool HF.out.symm, ((bel2 w _ _).trans (hb.mono (by omega))).trans ((belN _ _).mono (by have := hb.size; simp at this; omega))⟩
      · have he : hpB zs[k] c b = false := by simpa using he
        have hE : (bits .and .i64 zs[k] c == b) = false := by rw [hp]; exact he
        have HE := hide he
        clear he hp
        go_wp2
        go_quiet (fail)
        go_wp2
        go_roundw
        case rel => exact ⟨k + 1, by omega, by go_num, fun j hj => by
          rcases Nat.lt_or_ge j k with h | h
          · exact HA.out j h
          · obtain rfl : j = k := by omega
            rw [getD_lt hlt]
            exact HE.out, hb.trans ((belN _ _).mono (by have := hb.size; simpa using this))⟩
        case measure => simp only [intOf]; omega
    · obtain rfl : k = zs.length := by omega
      go_wp2
      go_ret
      exact ⟨ret_bool (openB_false HA.out).symm, (bel2 w _ _).trans (hb.mono (by omega))⟩

theorem hasPart_any (x c b : Int) (w : World) (hx : 0 ≤ x ∧ x ≤ 15) (hc : 0 ≤ c ∧ c ≤ 15) (hb : 0 ≤ b) :
    Calls Try.prog 121 #[.int .i64 x, .agg #[.int .i64 c, .int .i64 b]] w fun e w' => e = .returned (.bool (hpB x c b)) ∧ Below w.heap.size w w' := by
  have hp := hide (hp_and hx hc hb)
  clear hx hc hb
  go_enter Try.func121, Try.ntmps121
  go_wp2_with fail
  go_ret
  exact ⟨ret_bool hp.out, bel1 w _⟩

theorem openAsker11_any (x c b : Int) (g : Nat) (w : World) (bx : PBox w g c b) (hx : 0 ≤ x ∧ x ≤ 15) (hc : 0 ≤ c ∧ c ≤ 15) (hb : 0 ≤ b) :
    Calls Try.prog 120 #[.int .i64 x, .pointer (some ⟨g, 0, none⟩)] w fun e w' => e = .returned (.bool (hpB x c b)) ∧ Below w.heap.size w w' := by
  obtain ⟨_, c0, c1⟩ := bx
  go_enter Try.func120, Try.ntmps120
  go_wp2_with fail
  refine (hasPart_any _ _ _ _ hx hc hb).mono ?_
  rintro e w1 ⟨rfl, h1⟩
  go_wp2
  go_ret
  exact ⟨rfl, h1⟩

/-- What slices.IndexFunc leaves. -/
def IdxFPost (zs : List Int) (c b : Int) (w : World) (e : Ending) (w' : World) : Prop :=
  ∃ r : Int, ((openB zs c b = true ∧ 0 ≤ r) ∨ (openB zs c b = false ∧ r = -1)) ∧ r ≤ 1048576 ∧ e = .returned (.int .i64 r) ∧ Below w.heap.size w w'

set_option maxHeartbeats 1000000 in
theorem indexFunc_any (c b : Int) (a : Option Addr) (cap g : Nat) (zs : List Int) (w : World) (hi : Ints w a zs) (hn : zs.length ≤ 1048576) (px : PBox w g c b) (hr : ∀ x ∈ zs, 0 ≤ x ∧ x ≤ 15) (hc : 0 ≤ c ∧ c ≤ 15) (hb : 0 ≤ b) :
    Calls Try.prog 128 #[.slice a zs.length cap, .func (.func 120) #[] #[.pointer (some ⟨g, 0, none⟩)]] w (IdxFPost zs c b w) := by
  have HC := hide hc
  have HB := hide hb
  have HR := hide hr
  clear hc hb hr
  go_enter Try.func128, Try.ntmps128
  go_wp2_with fail
  go_loopw [8] (fun i wr => ∃ k : Nat, k ≤ zs.length ∧ i = .int .i64 k ∧ (∀ j, j < k → hpB (zs.getD j 0) c b = false) ∧ Below w.heap.size w wr) (fun i _ => zs.length - (intOf i).toNat)
  case atStart => exact ⟨0, Nat.zero_le _, rfl, fun j hj => by omega, Below.refl _ _⟩
  case round =>
    obtain ⟨k, hk, rfl, hall, hb⟩ := hrel
    have HA := hide hall
    clear hall
    by_cases hlt : k < zs.length
    · obtain ⟨bb, off, rfl, hbl, hc⟩ := (hi.below hb) (by omega)
      have hck := hc k hlt
      rw [getD_lt hlt] at hck
      clear hc hi
      by_cases he : hpB zs[k] c b = true
      · have HF := hide (openB_true hlt he)
        have HE := hide he
        clear he
        go_wp2_with fail
        refine (openAsker11_any _ c b _ _ (px.below hb) (HR.out _ (mem_of_at hlt)) HC.out HB.out).mono ?_
        rintro e w1 ⟨rfl, h1⟩
        have he := HE.out
        go_wp2
        go_ret
        exact ⟨k, .inl ⟨HF.out, by omega⟩, by omega, rfl, bnext hb h1⟩
      · have he : hpB zs[k] c b = false := by simpa using he
        have HE := hide he
        clear he
        go_wp2_with fail
        refine (openAsker11_any _ c b _ _ (px.below hb) (HR.out _ (mem_of_at hlt)) HC.out HB.out).mono ?_
        rintro e w1 ⟨rfl, h1⟩
        have he := HE.out
        go_wp2
        go_roundw
        case rel => exact ⟨k + 1, by omega, by go_num, fun j hj => by
          rcases Nat.lt_or_ge j k with h | h
          · exact HA.out j h
          · obtain rfl : j = k := by omega
            rw [getD_lt hlt]
            exact HE.out, bnext hb h1⟩
        case measure => simp only [intOf]; omega
    · obtain rfl : k = zs.length := by omega
      go_wp2
      go_ret
      exact ⟨-1, .inr ⟨openB_false HA.out, rfl⟩, by omega, rfl, hb⟩

theorem containsFunc_any (c b : Int) (a : Option Addr) (cap g : Nat) (zs : List Int) (w : World) (hi : Ints w a zs) (hn : zs.length ≤ 1048576) (px : PBox w g c b) (hr : ∀ x ∈ zs, 0 ≤ x ∧ x ≤ 15) (hc : 0 ≤ c ∧ c ≤ 15) (hb : 0 ≤ b) :
    Calls Try.prog 87 #[.slice a zs.length cap, .func (.func 120) #[] #[.pointer (some ⟨g, 0, none⟩)]] w fun e w' => e = .returned (.bool (openB zs c b)) ∧ Below w.heap.size w w' := by
  by_cases hm : openB zs c b = true
  · have HM := hide hm
    clear hm
    go_enter Try.func87, Try.ntmps87
    go_wp2_with fail
    refine (indexFunc_any _ _ _ _ _ _ _ hi hn px hr hc hb).mono ?_
    rintro e w' ⟨r, hr, hr2, rfl, hb⟩
    have h0 : 0 ≤ r := by
      rcases hr with ⟨_, h⟩ | ⟨h, _⟩
      · exact h
      · rw [HM.out] at h; cases h
    clear hr
    go_wp2
    go_ret
    exact ⟨ret_bool HM.out.symm, hb⟩
  · have hm : openB zs c b = false := by simpa using hm
    have HM := hide hm
    clear hm
    go_enter Try.func87, Try.ntmps87
    go_wp2_with fail
    refine (indexFunc_any _ _ _ _ _ _ _ hi hn px hr hc hb).mono ?_
    rintro e w' ⟨r, hr, hr2, rfl, hb⟩
    have h0 : r < 0 := by
      rcases hr with ⟨h, _⟩ | ⟨_, h⟩
      · rw [HM.out] at h; cases h
      · omega
    clear hr
    go_wp2
    go_ret
    exact ⟨ret_bool (by rw [HM.out]; simp; omega), hb⟩

theorem openAsker1_any (n c b : Int) (a : Option Addr) (cap g : Nat) (zs : List Int) (w : World) (hi : Ints w a zs) (hn : zs.length ≤ 1048576) (bx : Box w g n a zs.length cap) (hr : ∀ x ∈ zs, 0 ≤ x ∧ x ≤ 15) (hc : 0 ≤ c ∧ c ≤ 15) (hb : 0 ≤ b) :
    Calls Try.prog 119 #[.agg #[.int .i64 c, .int .i64 b], .pointer (some ⟨g, 0, none⟩)] w fun e w' => e = .returned (.bool (openB zs c b)) ∧ Below w.heap.size w w' := by
  have ia := hi.below (bel1 w (.cells #[.int .i64 c, .int .i64 b] 67))
  have px := PBox.new w c b 67
  obtain ⟨_, c0, c1⟩ := bx
  clear hi
  have HR := hide hr
  have HC := hide hc
  have HB := hide hb
  clear hr hc hb
  go_enter Try.func119, Try.ntmps119
  go_wp2_with fail
  refine (containsFunc_any _ _ _ _ _ _ _ ia hn px HR.out HC.out HB.out).mono ?_
  rintro e w1 ⟨rfl, h1⟩
  go_wp2
  go_ret
  exact ⟨rfl, bnext (bel1 w _) h1⟩

theorem openAsker_any (n : Int) (a : Option Addr) (len cap : Nat) (w : World) : Calls Try.prog 79 #[.agg #[.int .i64 n, .slice a len cap]] w fun e w' =>
    e = .returned (.func (.func 119) #[] #[.pointer (some ⟨w.heap.size, 0, none⟩)]) ∧ w' = w.alloc (.cells #[.int .i64 n, .slice a len cap] 28) := by
  go_enter Try.func79, Try.ntmps79
  go_wp2_with fail
  go_ret
  exact ⟨rfl, rfl⟩

/-- what IsOpen answers -/
def opB (n : Int) (zs : List Int) (c b : Int) : Bool := vpB n zs c b && openB zs c b
theorem opB_false {n : Int} {zs : List Int} {c b : Int} (h : vpB n zs c b = false) : opB n zs c b = false := by unfold opB; rw [h]; rfl
theorem opB_true {n : Int} {zs : List Int} {c b : Int} (h : vpB n zs c b = true) : opB n zs c b = openB zs c b := by unfold opB; rw [h]; rfl
theorem vp_of {n : Int} {zs : List Int} {c b : Int} (h : vpB n zs c b = true) : Valid n zs ∧ IsPt n c b := by
  simpa [vpB, vsB, ptB] using h

end Go.Proofs.Ytccemllgglfgkaa
