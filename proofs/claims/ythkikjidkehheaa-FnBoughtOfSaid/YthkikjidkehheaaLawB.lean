/- The helpers of the laws of promises on ballots: equalInts, isIn, among, ascends, weight, power, bit, total, choose. -/
import Derived.Test.YthkikjidkehheaaReadB
namespace Go.Proofs.Ythkikjidkehheaa
open Go.RowKit Go.Joins

def hasB (zs : List Int) (x : Int) : Bool := decide (x ∈ zs)
theorem not_mem_of {zs : List Int} {x : Int} (h : ∀ j, j < zs.length → zs.getD j 0 ≠ x) : x ∉ zs := by
  intro hm
  obtain ⟨j, hj, e⟩ := List.getElem_of_mem hm
  exact h j hj (by rw [getD_lt hj]; exact e)
theorem hasB_true {zs : List Int} {x : Int} (h : x ∈ zs) : hasB zs x = true := by simpa [hasB] using h
theorem hasB_false {zs : List Int} {x : Int} (h : x ∉ zs) : hasB zs x = false := by simpa [hasB] using h

/-- whether two lists are the same -/
def eqB (xs ys : List Int) : Bool := decide (xs = ys)
theorem eqB_refl (xs : List Int) : eqB xs xs = true := by simp [eqB]
set_option maxHeartbeats 400000 in
theorem equalInts_any (a b : Option Addr) (ca cb : Nat) (xs ys : List Int) (w : World) (hx : Ints w a xs) (hy : Ints w b ys) (hn : xs.length ≤ 1048576) (hm : ys.length ≤ 1048576) :
    Calls Try.prog 16 #[.slice a xs.length ca, .slice b ys.length cb] w fun e w' => e = .returned (.bool (eqB xs ys)) ∧ Below w.heap.size w w' := by
  by_cases hl : xs.length = ys.length
  · have hne : ((xs.length : Int) != (ys.length : Int)) = false := by simp [hl]
    have HL := hide hl
    clear hl
    go_enter Try.func16, Try.ntmps16
    go_wp2
    go_loopw [5] (fun i wr => ∃ k : Nat, k ≤ xs.length ∧ i = .int .i64 k ∧ (∀ j, j < k → xs.getD j 0 = ys.getD j 0) ∧ Below w.heap.size w wr) (fun i _ => xs.length - (intOf i).toNat)
    case atStart => exact ⟨0, Nat.zero_le _, rfl, fun j hj => by omega, Below.refl _ _⟩
    case round =>
      obtain ⟨k, hk, rfl, hall, hb⟩ := hrel
      have HA := hide hall
      clear hall
      by_cases hlt : k < xs.length
      · obtain ⟨b1, o1, rfl, hb1, hc1⟩ := hx (by omega)
        obtain ⟨b2, o2, rfl, hb2, hc2⟩ := hy (by rw [← HL.out]; omega)
        have hlt2 : k < ys.length := by rw [← HL.out]; exact hlt
        have h1 := (hb.cell (p := ⟨b1, o1 + k, none⟩) hb1).trans (hc1 k hlt)
        have h2 := (hb.cell (p := ⟨b2, o2 + k, none⟩) hb2).trans (hc2 k hlt2)
        clear hc1 hc2
        rw [getD_lt hlt] at h1
        rw [getD_lt hlt2] at h2
        by_cases he : xs[k] = ys[k]
        · have hE : (xs[k] != ys[k]) = false := by simpa using he
          have HE := hide he
          clear he
          go_wp2
          go_quiet (fail)
          go_wp2
          go_roundw
          case rel => exact ⟨k + 1, by omega, by go_num, fun j hj => by
            rcases Nat.lt_or_ge j k with h | h
            · exact HA.out j h
            · obtain rfl : j = k := by omega
              rw [getD_lt hlt, getD_lt hlt2]
              exact HE.out, hb.trans ((belN _ _).mono hb.size)⟩
          case measure => simp only [intOf]; omega
        · have hE : (xs[k] != ys[k]) = true := by simpa using he
          go_wp2
          go_quiet (fail)
          go_wp2
          go_ret
          exact ⟨ret_bool (by simp [eqB]; intro e; subst e; exact he rfl), hb.trans ((belN _ _).mono hb.size)⟩
      · obtain rfl : k = xs.length := by omega
        go_wp2
        go_ret
        refine ⟨ret_bool ?_, hb⟩
        have : xs = ys := ints_ext HL.out HA.out
        simp [this, eqB]
  · have hne : ((xs.length : Int) != (ys.length : Int)) = true := by simp; omega
    have HL := hide (show ¬ xs = ys from fun e => hl (by rw [e]))
    clear hl
    go_enter Try.func16, Try.ntmps16
    go_wp2
    go_ret
    exact ⟨ret_bool (by simp [eqB, HL.out]), Below.refl _ _⟩
theorem equalInts_yes (a b : Option Addr) (ca cb : Nat) (xs : List Int) (w : World) (hx : Ints w a xs) (hy : Ints w b xs) (hn : xs.length ≤ 1048576) :
    Calls Try.prog 16 #[.slice a xs.length ca, .slice b xs.length cb] w fun e w' => e = .returned (.bool true) ∧ Below w.heap.size w w' :=
  (equalInts_any a b ca cb xs xs w hx hy hn hn).mono fun _ _ ⟨he, hb⟩ => ⟨he.trans (ret_bool (eqB_refl _)), hb⟩


/-- whether all of a list are in another one -/
def amongB (xs ys : List Int) : Bool := xs.all fun x => hasB ys x
theorem amongB_true {xs ys : List Int} (h : ∀ x ∈ xs, x ∈ ys) : amongB xs ys = true := List.all_eq_true.2 fun x hx => hasB_true (h x hx)

/-- Each is more than the one before. -/
def Ups (zs : List Int) : Prop := ∀ i, i < zs.length → 0 < i → zs.getD (i - 1) 0 < zs.getD i 0

theorem lawWeight_any (x : Nat) (w : World) (hx : x < 64) : Calls Try.prog 19 #[.int .i64 x] w fun e w' => e = .returned (.int .i64 (pc x)) ∧ w = w' := by
  go_enter Try.func19, Try.ntmps19
  go_wp2_with fail
  go_loop [0, 3] (fun i o => ∃ m s : Nat, m < 64 ∧ s + pc m = pc x ∧ i = .int .i64 m ∧ o = .int .i64 s) (fun i _ => (intOf i).toNat)
  case atStart => exact ⟨x, 0, hx, by omega, rfl, rfl⟩
  case round =>
    obtain ⟨m, s, hm, he, rfl, rfl⟩ := hrel
    have hst := hide (pc_step m hm)
    have hle := pc_le x
    have hs : s ≤ 6 := by omega
    have HE := hide he
    clear he
    by_cases hlt : 0 < m
    · go_wp2
      go_round
      case rel => exact ⟨m / 2, s + m % 2, by omega, by have := HE.out; rw [hst.out] at this; omega, by go_num, by go_num⟩
      case measure => simp only [intOf]; omega
    · obtain rfl : m = 0 := by omega
      go_wp2
      go_ret
      exact ⟨ret_int (by have := HE.out; rw [pc_zero] at this; omega), rfl⟩
/-- the sum of the first k of a list -/
def totK (zs : List Int) : Nat → Int
  | 0 => 0
  | k + 1 => totK zs k + zs.getD k 0
theorem lawTotal_any (a : Option Addr) (cap : Nat) (zs : List Int) (w : World) (hi : Ints w a zs) (hn : zs.length ≤ 1048576) (hr : ∀ k, k ≤ zs.length → -1073741824 ≤ totK zs k ∧ totK zs k ≤ 1073741824) :
    Calls Try.prog 20 #[.slice a zs.length cap] w fun e w' => e = .returned (.int .i64 (totK zs zs.length)) ∧ w = w' := by
  have HR := hide hr
  clear hr
  go_enter Try.func20, Try.ntmps20
  go_wp2
  go_loop [3, 4] (fun o i => ∃ k : Nat, k ≤ zs.length ∧ i = .int .i64 k ∧ o = .int .i64 (totK zs k)) (fun _ i => zs.length - (intOf i).toNat)
  case atStart => exact ⟨0, Nat.zero_le _, rfl, rfl⟩
  case round =>
    obtain ⟨k, hk, rfl, rfl⟩ := hrel
    by_cases hlt : k < zs.length
    · obtain ⟨b, off, rfl, hbl, hc⟩ := hi (by omega)
      have hck := hc k hlt
      rw [getD_lt hlt] at hck
      have h1 := HR.out k hk
      have h2 := HR.out (k + 1) (by omega)
      have hs : totK zs (k + 1) = totK zs k + zs[k] := by show totK zs k + zs.getD k 0 = _; rw [getD_lt hlt]
      rw [hs] at h2
      have HS := hide hs
      obtain ⟨t, ht⟩ : ∃ t, t = totK zs k := ⟨_, rfl⟩
      obtain ⟨z, hz⟩ : ∃ z, z = zs[k] := ⟨_, rfl⟩
      rw [← ht, ← hz] at h2
      rw [← ht] at h1 HS ⊢
      rw [← hz] at hck HS
      clear hc hi hs ht hz
      go_wp2
      go_round
      case rel => exact ⟨k + 1, by omega, by go_num, by rw [HS.out]⟩
      case measure => simp only [intOf]; omega
    · obtain rfl : k = zs.length := by omega
      go_wp2
      go_ret
      exact ⟨rfl, rfl⟩
end Go.Proofs.Ythkikjidkehheaa
