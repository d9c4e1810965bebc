/- Lists of numbers that a call gives or looks through, without spaces; Go's bit operations on numbers below 2 to 32. -/
import Derived.Test.YthkikjidkehheaaMark
import Derived.OwnWalk
import Derived.Laws.BitsAllLaws
import Derived.OpenShut
namespace Go.Proofs.Ythkikjidkehheaa
open Go.RowKit Go.Joins

theorem quiet_left {P : Program} {f : FuncId} {args : Array Value} {w : World} {n : Nat} {v : Value}
    (h : Calls P f args (w.drewN n) fun e w' => e = .returned v ∧ w.drewN n = w') : Calls P f args (w.drewN n) fun e w'' => e = .returned v ∧ ∃ m, w'' = w.drewN m :=
  h.mono fun _ _ ⟨he, hm⟩ => ⟨he, n, hm.symm⟩
theorem mem_of_at {zs : List Int} {k : Nat} (h : k < zs.length) : zs[k] ∈ zs := List.getElem_mem h
theorem any_true {p : Int → Bool} {zs : List Int} {k : Nat} (hk : k < zs.length) (h : p zs[k] = true) : zs.any p = true := List.any_eq_true.2 ⟨zs[k], mem_of_at hk, h⟩
theorem any_false {p : Int → Bool} {zs : List Int} (h : ∀ j, j < zs.length → p (zs.getD j 0) = false) : zs.any p = false := by
  rw [List.any_eq_false]
  intro x hx
  obtain ⟨j, hj, rfl⟩ := List.getElem_of_mem hx
  have := h j hj
  rw [getD_lt hj] at this
  simp [this]
theorem mem_getD_of {zs : List Int} {x : Int} (h : x ∈ zs) : ∃ j, j < zs.length ∧ zs.getD j 0 = x := by
  obtain ⟨j, hj, e⟩ := List.getElem_of_mem h
  exact ⟨j, hj, by rw [getD_lt hj]; exact e⟩
theorem filter_take (p : Int → Bool) (zs : List Int) (k : Nat) (hk : k < zs.length) : (zs.take (k + 1)).filter p = (zs.take k).filter p ++ (if p zs[k] then [zs[k]] else []) := by
  rw [List.take_add_one, List.getElem?_eq_getElem hk, List.filter_append]
  by_cases h : p zs[k] = true <;> simp [h]
theorem filter_le (p : Int → Bool) (zs : List Int) (k : Nat) : ((zs.take k).filter p).length ≤ k := Nat.le_trans (List.length_filter_le _ _) (List.length_take_le _ _)
/-- An element more. -/
theorem Owns.push {w : World} {base : Nat} {v : Value} {ys : List Int} {z : Int} (h : w.ownsRow base 3 1 v (ys.length + 1) (ys.map (Value.int .i64) ++ [.int .i64 z])) : Owns w base v (ys ++ [z]) := by
  unfold Owns; simpa using h

/-- An owned list, and nothing old has turned. -/
def Gives (zs : List Int) (w : World) (e : Ending) (w' : World) : Prop := ∃ v, e = .returned v ∧ Owns w' w.heap.size v zs ∧ Below w.heap.size w w'
theorem gives_nil {zs : List Int} {w w' : World} (h : zs = []) (hb : Below w.heap.size w w') : Gives zs w (.returned (.slice none 0 0)) w' := by
  subst h
  exact ⟨_, rfl, World.ownsRow_nil _ _ _ _, hb⟩

/-- A write to a row from K on, seen from K. -/
theorem bgrown {K : Nat} {a w w' : World} {row : Option Nat} (h : Below K a w) (hg : w.grownBy w' row) (hK : K ≤ w.heap.size) (hr : ∀ k, row = some k → K ≤ k) : Below K a w' := h.grown hg hK hr
theorem own_ge {w : World} {base : Nat} {v : Value} {zs : List Int} (h : Owns w base v zs) : ∀ k, v.ownBlock = some k → base ≤ k := fun k hk => (World.ownsRow.lt h k hk).1
theorem own_lt {w : World} {base : Nat} {v : Value} {zs : List Int} (h : Owns w base v zs) : ∀ k, v.ownBlock = some k → k < w.heap.size := fun k hk => (World.ownsRow.lt h k hk).2
theorem own_kept {w w' : World} {base : Nat} {v : Value} {zs : List Int} {row : Option Nat} (h : Owns w base v zs) (hg : w.grownBy w' row) (hne : ∀ k, row = some k → v.ownBlock ≠ some k) : Owns w' base v zs := by
  refine World.ownsRow.kept h hg ?_
  rcases hr : row with _ | k
  · rcases v.ownBlock with _ | j
    · exact .inl rfl
    · exact .inr (by simp)
  · exact .inr (hne k hr)

theorem eqIntS_yes (a b : Option Addr) (ca cb : Nat) (xs : List Int) (w : World) (hx : Ints w a xs) (hy : Ints w b xs) (hn : xs.length ≤ 1048576) :
    Calls Try.prog 10 #[.slice a xs.length ca, .slice b xs.length cb] w fun e w' => e = .returned (.bool true) ∧ Below w.heap.size w w' :=
  (eqIntS_any a b ca cb xs xs w hx hy hn).mono fun _ _ ⟨he, hb⟩ => ⟨he.trans (ret_bool (by simp)), hb⟩
theorem held_yes (a : Option Addr) (cap n : Nat) (k : Int) (w : World) (hi : Ints w a (marks k n)) (hn : n ≤ 1048576) (h0 : 0 ≤ k) (h1 : k ≤ 4194304) :
    Calls Try.prog 12 #[.slice a n cap, .int .i64 k] w fun e w' => e = .returned (.int .i64 (k + n)) ∧ Below w.heap.size w w' := by
  have h := heldIntS_any a cap (marks k n) k w hi (by rw [marks_length]; exact hn) h0 h1 (by rw [marks_length])
  rwa [marks_length] at h
theorem inRange_yes (n l h : Int) (w : World) (hh : l ≤ n ∧ n ≤ h) : Calls Try.prog 44 #[.int .i64 n, .int .i64 l, .int .i64 h] w fun e w' => e = .returned (.bool true) ∧ w = w' :=
  (inRange_any n l h w).mono fun _ _ ⟨he, hw⟩ => ⟨by rw [he, decide_eq_true hh], hw⟩
theorem inRange_no (n l h : Int) (w : World) (hh : ¬ (l ≤ n ∧ n ≤ h)) : Calls Try.prog 44 #[.int .i64 n, .int .i64 l, .int .i64 h] w fun e w' => e = .returned (.bool false) ∧ w = w' :=
  (inRange_any n l h w).mono fun _ _ ⟨he, hw⟩ => ⟨by rw [he, decide_eq_false hh], hw⟩

theorem ofInt_small (a : Nat) (ha : a < 9223372036854775808) : (BitVec.ofInt 64 (a : Int)).toNat = a := by
  rw [BitVec.ofInt_natCast, BitVec.toNat_ofNat]; exact Nat.mod_eq_of_lt (by omega)
theorem xor_big (a b : Nat) (ha : a < 4294967296) (hb : b < 4294967296) : bits .xor .i64 (a : Int) (b : Int) = ((a ^^^ b : Nat) : Int) := by
  have hx : a ^^^ b < 2 ^ 32 := Nat.xor_lt_two_pow (by omega) (by omega)
  show IntKind.i64.wrap ((BitVec.ofInt 64 (a : Int) ^^^ BitVec.ofInt 64 (b : Int)).toNat : Int) = _
  rw [BitVec.toNat_xor, ofInt_small a (by omega), ofInt_small b (by omega), IntKind.wrap_i64]
  omega
theorem and_big (a b : Nat) (ha : a < 4294967296) (hb : b < 4294967296) : bits .and .i64 (a : Int) (b : Int) = ((a &&& b : Nat) : Int) := by
  have hx : a &&& b < 2 ^ 32 := Nat.and_lt_two_pow _ (by omega)
  show IntKind.i64.wrap ((BitVec.ofInt 64 (a : Int) &&& BitVec.ofInt 64 (b : Int)).toNat : Int) = _
  rw [BitVec.toNat_and, ofInt_small a (by omega), ofInt_small b (by omega), IntKind.wrap_i64]
  omega
theorem or_big (a b : Nat) (ha : a < 4294967296) (hb : b < 4294967296) : bits .or .i64 (a : Int) (b : Int) = ((a ||| b : Nat) : Int) := by
  have hx : a ||| b < 2 ^ 32 := Nat.or_lt_two_pow (by omega) (by omega)
  show IntKind.i64.wrap ((BitVec.ofInt 64 (a : Int) ||| BitVec.ofInt 64 (b : Int)).toNat : Int) = _
  rw [BitVec.toNat_or, ofInt_small a (by omega), ofInt_small b (by omega), IntKind.wrap_i64]
  omega

/-- how many digits of a number below 64 are 1 -/
def pc (x : Nat) : Nat := x % 2 + x / 2 % 2 + x / 4 % 2 + x / 8 % 2 + x / 16 % 2 + x / 32 % 2
theorem pc_step (x : Nat) (h : x < 64) : pc x = x % 2 + pc (x / 2) := by unfold pc; omega
theorem pc_zero : pc 0 = 0 := rfl
theorem pc_le (x : Nat) : pc x ≤ 6 := by unfold pc; omega
/-- the digit of a number at a place -/
def bitN (x j : Nat) : Nat := x / 2 ^ j % 2
theorem bitN_le (x j : Nat) : bitN x j ≤ 1 := by unfold bitN; omega
theorem pw_nat (k : Nat) : pw (k : Int) = ((2 ^ k : Nat) : Int) := by unfold pw; rw [Int.toNat_natCast]

theorem weight_any (x : Nat) (w : World) (hx : x < 64) : Calls Try.prog 47 #[.int .i64 x] w fun e w' => e = .returned (.int .i64 (pc x)) ∧ w = w' := by
  go_enter Try.func47, Try.ntmps47
  go_wp2_with fail
  go_loop [0, 3] (fun i o => ∃ m s : Nat, m < 64 ∧ s + pc m = pc x ∧ i = .int .i64 m ∧ o = .int .i64 s) (fun i _ => (intOf i).toNat)
  case atStart => exact ⟨x, 0, hx, by omega, rfl, rfl⟩
  case round =>
    obtain ⟨m, s, hm, he, rfl, rfl⟩ := hrel
    have hst := hide (pc_step m hm)
    have hle := pc_le x
    have hs : s ≤ 6 := by omega
    have HE := hide he
    clear he
    by_cases hlt : 0 < m
    · go_wp2
      go_round
      case rel => exact ⟨m / 2, s + m % 2, by omega, by have := HE.out; rw [hst.out] at this; omega, by go_num, by go_num⟩
      case measure => simp only [intOf]; omega
    · obtain rfl : m = 0 := by omega
      go_wp2
      go_ret
      exact ⟨ret_int (by have := HE.out; rw [pc_zero] at this; omega), rfl⟩
theorem bit_any (x j : Nat) (w : World) (hx : x < 64) (hj : j ≤ 6) : Calls Try.prog 46 #[.int .i64 x, .int .i64 j] w fun e w' => e = .returned (.int .i64 (bitN x j : Nat)) ∧ w = w' := by
  have h0 : pw 0 = 1 := rfl
  have h1 : pw 1 = 2 := rfl
  have h2 : pw 2 = 4 := rfl
  have h3 : pw 3 = 8 := rfl
  have h4 : pw 4 = 16 := rfl
  have h5 : pw 5 = 32 := rfl
  have h6 : pw 6 = 64 := rfl
  rcases (show j = 0 ∨ j = 1 ∨ j = 2 ∨ j = 3 ∨ j = 4 ∨ j = 5 ∨ j = 6 from by omega) with rfl | rfl | rfl | rfl | rfl | rfl | rfl
  all_goals
    go_enter Try.func46, Try.ntmps46
    go_wp2_with (go_at_call 48; refine (power_any _ _ (by omega) (by omega)).mono ?_; rintro e w' ⟨rfl, rfl⟩)
    go_ret
    exact ⟨ret_int (by unfold bitN; omega), rfl⟩
theorem bitI_any (x : Int) (j : Nat) (w : World) (hx : 0 ≤ x ∧ x ≤ 63) (hj : j ≤ 6) : Calls Try.prog 46 #[.int .i64 x, .int .i64 j] w fun e w' => e = .returned (.int .i64 (bitN x.toNat j : Nat)) ∧ w = w' := by
  obtain ⟨y, rfl⟩ := Int.eq_ofNat_of_zero_le hx.1
  exact bit_any y j w (by omega) hj
theorem onesCount64_any (x : Nat) (w : World) (hx : x < 32) : Calls Try.prog 88 #[.int .u64 x] w fun e w' => e = .returned (.int .i64 (pc x)) ∧ w = w' := by
  go_enter Try.func88, Try.ntmps88
  go_wp2_with fail
  go_ret
  refine ⟨ret_int ?_, rfl⟩
  obtain ⟨y, hy⟩ : ∃ y : Fin 32, x = y.val := ⟨⟨x, hx⟩, rfl⟩
  subst hy
  clear hx
  revert y
  decide +kernel
theorem onesCount_any (x : Nat) (w : World) (hx : x < 32) : Calls Try.prog 73 #[.int .u64 x] w fun e w' => e = .returned (.int .i64 (pc x)) ∧ w = w' := by
  go_enter Try.func73, Try.ntmps73
  go_wp2_with fail
  refine (onesCount64_any _ _ hx).mono ?_
  rintro e w' ⟨rfl, rfl⟩
  go_wp2
  go_ret
  exact ⟨rfl, rfl⟩
end Go.Proofs.Ythkikjidkehheaa
