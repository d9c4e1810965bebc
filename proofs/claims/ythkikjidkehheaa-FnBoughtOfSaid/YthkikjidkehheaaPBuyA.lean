/- Texts of this seat one behind the other: Scan, WroM, WroS, WroT, WroB, GrpB, JustM, LoadP, BuyX, Mask, WroI, WroJ, PJust, PLoad, PBuy. Conditions: none. -/
import Derived.Test.YthkikjidkehheaaSeat
import Derived.Test.YthkikjidkehheaaApp
import Derived.Test.YthkikjidkehheaaScoM
import Derived.Test.YthkikjidkehheaaLoadM
import Derived.Test.YthkikjidkehheaaBuyQ
import Derived.Test.YthkikjidkehheaaBal
import Derived.Test.YthkikjidkehheaaSco
import Derived.Test.YthkikjidkehheaaDrawB3
import Derived.Test.YthkikjidkehheaaLoadI
import Derived.Test.YthkikjidkehheaaDrawB4
import Derived.Test.YthkikjidkehheaaBuyI
import Derived.WalkKit
import Derived.Deep.RegionHeld3
import Derived.Deep.QuietTactic
import Derived.BigQuiet

/- Scan: The first pair that meets a test. Nothing of the program. -/
namespace Go.Proofs.Ythkikjidkehheaa

theorem find_some {p : Nat → Bool} {M g : Nat} (hg : g < M) (hp : p g = true) (h : ∀ x, x < g → p x = false) : (List.range M).find? p = some g := by
  rw [List.find?_range_eq_some]
  exact ⟨hp, by simpa using hg, fun j hj => by rw [h j hj]; rfl⟩
theorem find_none {p : Nat → Bool} {M : Nat} (h : ∀ x, x < M → p x = false) : (List.range M).find? p = none := by
  rw [List.find?_eq_none]
  intro x hx
  rw [h x (by simpa using hx)]
  decide
/-- the first l from a start, and then the first g below M, that meet a test -/
def scan (p : Nat → Nat → Bool) (M : Nat) : Nat → Nat → Option (Nat × Nat)
  | 0, _ => none
  | f + 1, l => match (List.range M).find? (p l) with
    | some g => some (l, g)
    | none => scan p M f (l + 1)
theorem scan_hit {p : Nat → Nat → Bool} {M f l g : Nat} (hg : g < M) (hp : p l g = true) (h : ∀ x, x < g → p l x = false) : scan p M (f + 1) l = some (l, g) := by
  show (match (List.range M).find? (p l) with | some g => some (l, g) | none => scan p M f (l + 1)) = _
  rw [find_some hg hp h]
theorem scan_miss {p : Nat → Nat → Bool} {M f l : Nat} (h : ∀ x, x < M → p l x = false) : scan p M (f + 1) l = scan p M f (l + 1) := by
  show (match (List.range M).find? (p l) with | some g => some (l, g) | none => scan p M f (l + 1)) = _
  rw [find_none h]
def scL : Option (Nat × Nat) → Nat
  | some x => x.1
  | none => 0
def scR : Option (Nat × Nat) → Nat
  | some x => x.2
  | none => 0
end Go.Proofs.Ythkikjidkehheaa

/- WroM: Groups that are wronged: the plain mathematics. -/
namespace Go.Proofs.Ythkikjidkehheaa
open Go.RowKit Go.Joins

/-- the ballots of a group, of the first k -/
def memK (bs : List Int) (g : Nat) : Nat → List Int
  | 0 => []
  | k + 1 => if bitN g k = 1 then memK bs g k ++ [bs.getD k 0] else memK bs g k
theorem memK_yes {bs : List Int} {g k : Nat} (h : bitN g k = 1) : memK bs g (k + 1) = memK bs g k ++ [bs.getD k 0] := if_pos h
theorem memK_no {bs : List Int} {g k : Nat} (h : bitN g k ≠ 1) : memK bs g (k + 1) = memK bs g k := if_neg h
theorem memK_len (bs : List Int) (g : Nat) : ∀ k, (memK bs g k).length ≤ k
  | 0 => Nat.le_refl _
  | k + 1 => by
    have ih := memK_len bs g k
    by_cases h : bitN g k = 1
    · rw [memK_yes h, List.length_append]; simp; omega
    · rw [memK_no h]; omega
theorem memK_mem (bs : List Int) (g : Nat) : ∀ k, k ≤ bs.length → ∀ x ∈ memK bs g k, x ∈ bs
  | 0, _, x, hx => by cases hx
  | k + 1, hk, x, hx => by
    by_cases h : bitN g k = 1
    · rw [memK_yes h, List.mem_append, List.mem_singleton] at hx
      rcases hx with hx | rfl
      · exact memK_mem bs g k (by omega) x hx
      · rw [getD_lt (by omega)]; exact mem_of_at (by omega)
    · rw [memK_no h] at hx
      exact memK_mem bs g k (by omega) x hx
def memL (bs : List Int) (g : Nat) : List Int := memK bs g bs.length
/-- how many of the first k places are in a group -/
def cntK (g : Nat) : Nat → Nat
  | 0 => 0
  | k + 1 => cntK g k + bitN g k
theorem memK_cnt (bs : List Int) (g : Nat) : ∀ k, (memK bs g k).length = cntK g k
  | 0 => rfl
  | k + 1 => by
    have ih := memK_cnt bs g k
    have hb := bitN_le g k
    by_cases h : bitN g k = 1
    · rw [memK_yes h, List.length_append, ih]; show cntK g k + 1 = cntK g k + bitN g k; rw [h]
    · rw [memK_no h, ih]; show cntK g k = cntK g k + bitN g k; omega
theorem cnt_pc (g n : Nat) (hn : n ≤ 6) (hg : g < 2 ^ n) : cntK g n = pc g := by
  have h : ∀ n : Fin 7, ∀ g : Fin 64, g.val < 2 ^ n.val → cntK g.val n.val = pc g.val := by decide +kernel
  have h64 : 2 ^ n ≤ 2 ^ 6 := Nat.pow_le_pow_right (by omega) hn
  exact h ⟨n, by omega⟩ ⟨g, by omega⟩ hg
theorem memL_len {bs : List Int} {g : Nat} (hn : bs.length ≤ 6) (hg : g < 2 ^ bs.length) : (memL bs g).length = pc g := by
  unfold memL; rw [memK_cnt, cnt_pc g _ hn hg]

/-- what all of a list agree on, of x -/
def andL (ms : List Int) (x : Nat) : Nat := ms.foldl (fun a b => a &&& b.toNat) x
/-- what one of a list has, or x -/
def orL (ms : List Int) (x : Nat) : Nat := ms.foldl (fun a b => a ||| b.toNat) x
/-- how many of w one of a list has at most, at least x -/
def mostL (ms : List Int) (w x : Nat) : Nat := ms.foldl (fun a b => max a (pc (b.toNat &&& w))) x
theorem andL_snoc (ms : List Int) (b : Int) (x : Nat) : andL (ms ++ [b]) x = andL ms x &&& b.toNat := by unfold andL; rw [List.foldl_append]; rfl
theorem orL_snoc (ms : List Int) (b : Int) (x : Nat) : orL (ms ++ [b]) x = orL ms x ||| b.toNat := by unfold orL; rw [List.foldl_append]; rfl
theorem mostL_snoc (ms : List Int) (b : Int) (w x : Nat) : mostL (ms ++ [b]) w x = max (mostL ms w x) (pc (b.toNat &&& w)) := by unfold mostL; rw [List.foldl_append]; rfl
theorem andL_le (ms : List Int) : ∀ x, andL ms x ≤ x := by
  induction ms with
  | nil => intro x; exact Nat.le_refl _
  | cons b ms ih => intro x; exact Nat.le_trans (ih _) Nat.and_le_left
theorem orL_lt (ms : List Int) (h : ∀ b ∈ ms, 0 ≤ b ∧ b ≤ 31) : ∀ x, x < 32 → orL ms x < 32 := by
  induction ms with
  | nil => intro x hx; exact hx
  | cons b ms ih =>
    intro x hx
    have hb := h b (by simp)
    exact ih (fun c hc => h c (by simp [hc])) _ (Nat.or_lt_two_pow (n := 5) hx (by omega))
theorem mostL_le (ms : List Int) (w : Nat) : ∀ x, x ≤ 6 → mostL ms w x ≤ 6 := by
  induction ms with
  | nil => intro x hx; exact hx
  | cons b ms ih => intro x hx; exact ih _ (Nat.max_le.2 ⟨hx, pc_le (b.toNat &&& w)⟩)
theorem and_full (b : Int) (m : Nat) (h : 0 ≤ b ∧ b ≤ ((2 ^ m : Nat) : Int) - 1) : (2 ^ m - 1) &&& b.toNat = b.toNat := by
  rw [Nat.and_comm, Nat.and_two_pow_sub_one_eq_mod]
  exact Nat.mod_eq_of_lt (by omega)
/-- what a list of one and more agree on, begun with the first one -/
theorem andL_cons (b : Int) (ms : List Int) (m : Nat) (h : 0 ≤ b ∧ b ≤ ((2 ^ m : Nat) : Int) - 1) : andL (b :: ms) (2 ^ m - 1) = andL (b :: ms) b.toNat := by
  show andL ms ((2 ^ m - 1) &&& b.toNat) = andL ms (b.toNat &&& b.toNat)
  rw [and_full b m h, Nat.and_self]
theorem pc_zero_iff (x : Nat) (h : x < 32) : pc x = 0 ↔ x = 0 := by
  have : ∀ x : Fin 32, pc x.val = 0 ↔ x.val = 0 := by decide +kernel
  exact this ⟨x, h⟩
theorem orL_band (ms : List Int) (w : Nat) : ∀ x, orL (ms.map (bandI w)) (x &&& w) = orL ms x &&& w := by
  induction ms with
  | nil => intro x; rfl
  | cons b ms ih =>
    intro x
    show orL (ms.map (bandI w)) ((x &&& w) ||| (bandI w b).toNat) = orL ms (x ||| b.toNat) &&& w
    rw [← ih (x ||| b.toNat)]
    congr 1
    show (x &&& w) ||| (((b.toNat &&& w : Nat) : Int)).toNat = (x ||| b.toNat) &&& w
    rw [Int.toNat_natCast, Nat.and_or_distrib_right]
theorem orL_band0 (ms : List Int) (w : Nat) : orL (ms.map (bandI w)) 0 = orL ms 0 &&& w := by
  have := orL_band ms w 0
  rwa [Nat.zero_and] at this
theorem orL_zero (ms : List Int) : ∀ x, orL ms x = 0 ↔ x = 0 ∧ ∀ b ∈ ms, b.toNat = 0 := by
  induction ms with
  | nil => intro x; simp [orL]
  | cons b ms ih =>
    intro x
    show orL ms (x ||| b.toNat) = 0 ↔ _
    rw [ih, Nat.or_eq_zero_iff]
    simp only [List.mem_cons, forall_eq_or_imp]
    constructor
    · rintro ⟨⟨h1, h2⟩, h3⟩; exact ⟨h1, h2, h3⟩
    · rintro ⟨h1, h2, h3⟩; exact ⟨⟨h1, h2⟩, h3⟩
theorem mostL_lt (ms : List Int) (w l : Nat) : ∀ x, mostL ms w x < l ↔ x < l ∧ ∀ b ∈ ms, pc (b.toNat &&& w) < l := by
  induction ms with
  | nil => intro x; simp [mostL]
  | cons b ms ih =>
    intro x
    show mostL ms w (max x (pc (b.toNat &&& w))) < l ↔ _
    rw [ih]
    simp only [List.mem_cons, forall_eq_or_imp]
    constructor
    · rintro ⟨h1, h3⟩; exact ⟨by omega, by omega, h3⟩
    · rintro ⟨h1, h2, h3⟩; exact ⟨by omega, h3⟩

/-- which claim has a name: 1 one, 2 together, 3 someone; 0 for none -/
def claimN (s : ByteArray) : Nat :=
  if (s.toList == [111, 110, 101]) = true then 1
  else if (s.toList == [116, 111, 103, 101, 116, 104, 101, 114]) = true then 2
  else if (s.toList == [115, 111, 109, 101, 111, 110, 101]) = true then 3 else 0
theorem claim_cases (s : ByteArray) :
    (claimN s = 1 ∧ (s.toList == [111, 110, 101]) = true) ∨
    (claimN s = 2 ∧ (s.toList == [111, 110, 101]) = false ∧ (s.toList == [116, 111, 103, 101, 116, 104, 101, 114]) = true) ∨
    (claimN s = 3 ∧ (s.toList == [111, 110, 101]) = false ∧ (s.toList == [116, 111, 103, 101, 116, 104, 101, 114]) = false ∧ (s.toList == [115, 111, 109, 101, 111, 110, 101]) = true) ∨
    (claimN s = 0 ∧ (s.toList == [111, 110, 101]) = false ∧ (s.toList == [116, 111, 103, 101, 116, 104, 101, 114]) = false ∧ (s.toList == [115, 111, 109, 101, 111, 110, 101]) = false) := by
  unfold claimN
  cases h0 : s.toList == [111, 110, 101]
  · cases h1 : s.toList == [116, 111, 103, 101, 116, 104, 101, 114]
    · cases h2 : s.toList == [115, 111, 109, 101, 111, 110, 101] <;> simp
    · simp
  · simp
/-- members to whom l names are due are wronged by the claim q and the committee w -/
def wrongB (q : Nat) (ms : List Int) (l w : Nat) : Bool :=
  if q = 1 then decide (l = 1 ∧ mostL ms w 0 = 0) else if q = 2 then decide (pc (orL ms 0 &&& w) < l) else decide (mostL ms w 0 < l)
/-- so many of k are due to the members, of n ballots -/
def dueB (ms : List Int) (m n k l : Nat) : Bool := decide (l * n ≤ ms.length * k ∧ l ≤ pc (andL ms (2 ^ m - 1)))
/-- the group g is wronged: l names are due to it -/
def badB (q : Nat) (bs : List Int) (m k w l g : Nat) : Bool := dueB (memL bs g) m bs.length k l && wrongB q (memL bs g) l w
theorem badB_due {q : Nat} {bs : List Int} {m k w l g : Nat} (h : dueB (memL bs g) m bs.length k l = false) : badB q bs m k w l g = false := by unfold badB; rw [h]; rfl
theorem badB_yes {q : Nat} {bs : List Int} {m k w l g : Nat} (h : dueB (memL bs g) m bs.length k l = true) : badB q bs m k w l g = wrongB q (memL bs g) l w := by unfold badB; rw [h]; rfl
theorem memL_zero (bs : List Int) : memL bs 0 = [] := by
  have h : ∀ k, memK bs 0 k = [] := by
    intro k
    induction k with
    | zero => rfl
    | succ k ih => rw [memK_no (by unfold bitN; simp), ih]
  exact h _
theorem bad_zero {q : Nat} {bs : List Int} {m k w l : Nat} (h1 : 1 ≤ bs.length) (hl : 1 ≤ l) : badB q bs m k w l 0 = false := by
  refine badB_due ?_
  unfold dueB
  rw [memL_zero]
  refine decide_eq_false (fun h => ?_)
  have h2 : l * bs.length ≤ 0 := by simpa using h.1
  have h3 : 1 * 1 ≤ l * bs.length := Nat.mul_le_mul hl h1
  omega
/-- what WrongedBy finds -/
def wroA (s : ByteArray) (c : Int) (bs : List Int) (k x : Int) : Option (Nat × Nat) :=
  if claimN s ≠ 0 ∧ seatedB c bs k x = true then scan (badB (claimN s) bs c.toNat k.toNat x.toNat) (2 ^ bs.length) k.toNat 1 else none
theorem wroA_yes {s : ByteArray} {c : Int} {bs : List Int} {k x : Int} (h1 : claimN s ≠ 0) (h2 : seatedB c bs k x = true) :
    wroA s c bs k x = scan (badB (claimN s) bs c.toNat k.toNat x.toNat) (2 ^ bs.length) k.toNat 1 := if_pos ⟨h1, h2⟩
theorem wroA_claim {s : ByteArray} {c : Int} {bs : List Int} {k x : Int} (h1 : claimN s = 0) : wroA s c bs k x = none := if_neg (fun h => h.1 h1)
theorem wroA_seat {s : ByteArray} {c : Int} {bs : List Int} {k x : Int} (h2 : seatedB c bs k x = false) : wroA s c bs k x = none := if_neg (fun h => by rw [h2] at h; cases h.2)
/-- what IsJust answers -/
def justB (s : ByteArray) (c : Int) (bs : List Int) (k x : Int) : Bool := (decide (claimN s ≠ 0) && seatedB c bs k x) && (wroA s c bs k x).isNone
theorem pow_le6 (n : Nat) (h : n ≤ 6) : 2 ^ n ≤ 64 := by
  have : 2 ^ n ≤ 2 ^ 6 := Nat.pow_le_pow_right (by omega) h
  omega
end Go.Proofs.Ythkikjidkehheaa

/- WroS: Groups that are wronged, in the model: WrongedBy and IsJust. -/
namespace Go.Proofs.Ythkikjidkehheaa
open Go.RowKit Go.Joins

end Go.Proofs.Ythkikjidkehheaa

/- WroT: The model's search for a group that is wronged, at each claim; WrongedBy and IsJust of the model. -/
namespace Go.Proofs.Ythkikjidkehheaa
open Go.RowKit Go.Joins

def WroE (o : Option (Nat × Nat)) (e : Ending) : Prop := e = .returned (.tuple #[.int .i64 (scR o : Nat), .int .i64 (scL o : Nat)])
theorem wro_none {o : Option (Nat × Nat)} (h : o = none) : WroE o (.returned (.tuple #[.int .i64 0, .int .i64 0])) := by subst h; rfl
theorem wro_some {o : Option (Nat × Nat)} {l g : Nat} (h : o = some (l, g)) : WroE o (.returned (.tuple #[.int .i64 g, .int .i64 l])) := by subst h; rfl
theorem due_no1 {ms : List Int} {m n k l : Nat} (h : ms.length * k < l * n) : dueB ms m n k l = false := by unfold dueB; exact decide_eq_false (fun hh => by omega)
theorem due_no2 {ms : List Int} {m n k l : Nat} (h : pc (andL ms (2 ^ m - 1)) < l) : dueB ms m n k l = false := by unfold dueB; exact decide_eq_false (fun hh => by omega)
theorem due_yes {ms : List Int} {m n k l : Nat} (h : ¬ ms.length * k < l * n) (h2 : ¬ pc (andL ms (2 ^ m - 1)) < l) : dueB ms m n k l = true := by unfold dueB; exact decide_eq_true ⟨by omega, by omega⟩
theorem mul30 {a b : Nat} (ha : a ≤ 6) (hb : b ≤ 6) : a * b ≤ 36 := Nat.mul_le_mul ha hb
end Go.Proofs.Ythkikjidkehheaa

/- WroB: WrongedBy and IsJust of the model. -/
namespace Go.Proofs.Ythkikjidkehheaa
open Go.RowKit Go.Joins

theorem ret_two2 {x y a b : Int} (h : x = y) (h2 : a = b) : Ending.returned (.tuple #[.int .i64 x, .int .i64 a]) = .returned (.tuple #[.int .i64 y, .int .i64 b]) := by rw [h, h2]
/-- the group that is found and what is due to it -/
def wroG (s : ByteArray) (c : Int) (bs : List Int) (k x : Int) : Int := ((scR (wroA s c bs k x) : Nat) : Int)
def wroL (s : ByteArray) (c : Int) (bs : List Int) (k x : Int) : Int := ((scL (wroA s c bs k x) : Nat) : Int)
theorem scan_pos {p : Nat → Nat → Bool} {M : Nat} (h0 : ∀ l, 1 ≤ l → p l 0 = false) : ∀ f l, 1 ≤ l → (scR (scan p M f l) = 0 ↔ scan p M f l = none)
  | 0, _, _ => by simp [scan, scR]
  | f + 1, l, hl => by
    have ih := scan_pos (M := M) h0 f (l + 1) (by omega)
    unfold scan
    cases hf : (List.range M).find? (p l) with
    | none => exact ih
    | some g =>
      have hg := List.find?_some hf
      simp only [scR, reduceCtorEq, iff_false]
      intro e
      rw [e, h0 l hl] at hg
      cases hg
theorem just_eq {s : ByteArray} {c : Int} {bs : List Int} {k x : Int} (h1 : claimN s ≠ 0) (h2 : seatedB c bs k x = true) : justB s c bs k x = (wroG s c bs k x == 0) := by
  have hS := seats_of (seated_of h2).1
  have hb : 1 ≤ bs.length := by have := hS.1.2.1; omega
  unfold justB wroG
  rw [decide_eq_true h1, h2, wroA_yes h1 h2]
  have hp := scan_pos (M := 2 ^ bs.length) (fun l hl => bad_zero (q := claimN s) (bs := bs) (m := c.toNat) (k := k.toNat) (w := x.toNat) hb hl) k.toNat 1 (Nat.le_refl _)
  cases hsc : scan (badB (claimN s) bs c.toNat k.toNat x.toNat) (2 ^ bs.length) k.toNat 1 with
  | none => rfl
  | some g =>
    rw [hsc] at hp
    have hne : scR (some g) ≠ 0 := fun e => by have := hp.1 e; cases this
    show (true && true && false) = _
    symm
    simp
    omega
theorem just_claim {s : ByteArray} {c : Int} {bs : List Int} {k x : Int} (h1 : claimN s = 0) : justB s c bs k x = false := by unfold justB; rw [decide_eq_false (by omega)]; rfl
theorem just_seat {s : ByteArray} {c : Int} {bs : List Int} {k x : Int} (h2 : seatedB c bs k x = false) : justB s c bs k x = false := by unfold justB; rw [h2]; simp
theorem wroG_none {s : ByteArray} {c : Int} {bs : List Int} {k x : Int} (h : wroA s c bs k x = none) : wroG s c bs k x = 0 ∧ wroL s c bs k x = 0 := by unfold wroG wroL; rw [h]; exact ⟨rfl, rfl⟩

end Go.Proofs.Ythkikjidkehheaa

/- GrpB: Groups of ballots: plain mathematics. -/
namespace Go.Proofs.Ythkikjidkehheaa
open Go.RowKit Go.Joins

theorem tb_bitN (x j : Nat) : bitN x j = 1 ↔ x.testBit j = true := by
  unfold bitN
  rw [Nat.testBit_eq_decide_div_mod_eq, decide_eq_true_eq]
theorem andL_bit (ms : List Int) (j : Nat) : ∀ x, (andL ms x).testBit j = true ↔ x.testBit j = true ∧ ∀ b ∈ ms, b.toNat.testBit j = true := by
  induction ms with
  | nil => intro x; simp [andL]
  | cons b ms ih =>
    intro x
    show (andL ms (x &&& b.toNat)).testBit j = true ↔ _
    rw [ih, Nat.testBit_and, Bool.and_eq_true]
    simp only [List.mem_cons, forall_eq_or_imp]
    exact and_assoc
theorem orL_bit (ms : List Int) (j : Nat) : ∀ x, (orL ms x).testBit j = true ↔ x.testBit j = true ∨ ∃ b ∈ ms, b.toNat.testBit j = true := by
  induction ms with
  | nil => intro x; simp [orL]
  | cons b ms ih =>
    intro x
    show (orL ms (x ||| b.toNat)).testBit j = true ↔ _
    rw [ih, Nat.testBit_or, Bool.or_eq_true]
    simp only [List.mem_cons, exists_eq_or_imp]
    exact or_assoc
theorem pc_pos {x : Nat} (hx : x < 32) (h : 1 ≤ pc x) : ∃ j, j < 5 ∧ x.testBit j = true := by
  have h0 : ∀ x : Fin 32, 1 ≤ pc x.val → ∃ j : Fin 5, x.val.testBit j.val = true := by decide +kernel
  obtain ⟨j, hj⟩ := h0 ⟨x, hx⟩ h
  exact ⟨j, j.isLt, hj⟩
theorem pc_one {x j : Nat} (hx : x < 32) (h : x.testBit j = true) : 1 ≤ pc x := by
  rcases Nat.eq_zero_or_pos (pc x) with e | e
  · rw [pc_zero_iff x hx] at e
    rw [e, Nat.zero_testBit] at h; cases h
  · exact e
theorem memK_congr (bs : List Int) {g h : Nat} : ∀ k, (∀ j, j < k → bitN g j = bitN h j) → memK bs g k = memK bs h k
  | 0, _ => rfl
  | k + 1, e => by
    have ih := memK_congr bs k (fun j hj => e j (by omega))
    unfold memK
    rw [e k (by omega), ih]
/-- a group that takes just the ballots of a kind -/
theorem memGrp (p : Int → Bool) (bs : List Int) : ∀ k, k ≤ bs.length → ∃ g, g < 2 ^ k ∧ memK bs g k = (bs.take k).filter p
  | 0, _ => ⟨0, by decide, by simp [memK]⟩
  | k + 1, hk => by
    obtain ⟨g, hg, e⟩ := memGrp p bs k (by omega)
    have hlt : k < bs.length := by omega
    by_cases hp : p bs[k] = true
    · refine ⟨g + 2 ^ k, by rw [Nat.pow_succ]; omega, ?_⟩
      have h1 : bitN (g + 2 ^ k) k = 1 := by
        rw [tb_bitN, Nat.add_comm, Nat.testBit_two_pow_add_eq, Nat.testBit_lt_two_pow hg]; rfl
      have h2 : memK bs (g + 2 ^ k) k = memK bs g k := memK_congr bs k (fun j hj => by
        have h3 : (g + 2 ^ k).testBit j = g.testBit j := by rw [Nat.add_comm, Nat.testBit_two_pow_add_gt hj]
        have h4 := tb_bitN (g + 2 ^ k) j
        have h5 := tb_bitN g j
        have h6 := bitN_le (g + 2 ^ k) j
        have h7 := bitN_le g j
        rw [h3] at h4
        rcases Nat.eq_zero_or_pos (bitN g j) with e0 | e0
        · have h8 : g.testBit j ≠ true := fun hh => by have := h5.2 hh; omega
          have h9 : bitN (g + 2 ^ k) j ≠ 1 := fun hh => h8 (h4.1 hh)
          omega
        · have h8 : bitN (g + 2 ^ k) j = 1 := h4.2 (h5.1 (by omega))
          omega)
      rw [memK_yes h1, h2, e, filter_take _ _ _ hlt, if_pos hp, getD_lt hlt]
    · refine ⟨g, by rw [Nat.pow_succ]; omega, ?_⟩
      have h1 : bitN g k ≠ 1 := fun hh => by
        rw [tb_bitN, Nat.testBit_lt_two_pow hg] at hh; cases hh
      rw [memK_no h1, e, filter_take _ _ _ hlt, if_neg hp, List.append_nil]
theorem grp_ex (p : Int → Bool) (bs : List Int) : ∃ g, g < 2 ^ bs.length ∧ memL bs g = bs.filter p := by
  obtain ⟨g, h1, h2⟩ := memGrp p bs bs.length (Nat.le_refl _)
  exact ⟨g, h1, by rw [List.take_length] at h2; exact h2⟩
theorem memK_sub (bs : List Int) (g : Nat) : ∀ k, k ≤ bs.length → (memK bs g k).Sublist (bs.take k)
  | 0, _ => by simp [memK]
  | k + 1, hk => by
    have ih := memK_sub bs g k (by omega)
    have hlt : k < bs.length := by omega
    rw [List.take_succ_eq_append_getElem hlt]
    by_cases h : bitN g k = 1
    · rw [memK_yes h, getD_lt hlt]
      exact List.Sublist.append ih (List.Sublist.refl _)
    · rw [memK_no h]
      exact ih.trans (List.sublist_append_left _ _)
theorem memL_sub (bs : List Int) (g : Nat) : (memL bs g).Sublist bs := by
  have := memK_sub bs g bs.length (Nat.le_refl _)
  rw [List.take_length] at this
  exact this
def tbB (x : Nat) (b : Int) : Bool := b.toNat.testBit x
theorem supK_fil (vs : List Int) (x : Nat) : ∀ k, k ≤ vs.length → supK vs x k = ((vs.take k).filter (tbB x)).length
  | 0, _ => by simp [supK]
  | k + 1, hk => by
    have ih := supK_fil vs x k (by omega)
    have hlt : k < vs.length := by omega
    have hle := bitN_le (vs[k]).toNat x
    have htb := tb_bitN (vs[k]).toNat x
    show supK vs x k + bitN (vs.getD k 0).toNat x = _
    rw [filter_take _ _ _ hlt, List.length_append, ← ih, getD_lt hlt]
    by_cases h : tbB x vs[k] = true
    · rw [if_pos h, htb.2 h]; rfl
    · rw [if_neg h]
      have : bitN (vs[k]).toNat x ≠ 1 := fun hh => h (htb.1 hh)
      show _ = _ + 0
      omega
theorem supN_fil (vs : List Int) (x : Nat) : supN vs x = (vs.filter (tbB x)).length := by
  have := supK_fil vs x vs.length (Nat.le_refl _)
  rw [List.take_length] at this
  exact this
/-- when a group is wronged by someone -/
theorem wrong3_iff {ms : List Int} {l w : Nat} (hl : 1 ≤ l) : wrongB 3 ms l w = true ↔ ∀ b ∈ ms, pc (b.toNat &&& w) < l := by
  unfold wrongB
  rw [if_neg (by decide), if_neg (by decide), decide_eq_true_eq, mostL_lt]
  exact ⟨fun h => h.2, fun h => ⟨by omega, h⟩⟩
theorem wrong1_iff {ms : List Int} {l w : Nat} : wrongB 1 ms l w = true ↔ l = 1 ∧ ∀ b ∈ ms, pc (b.toNat &&& w) < 1 := by
  unfold wrongB
  rw [if_pos rfl, decide_eq_true_eq]
  have := mostL_lt ms w 1 0
  constructor
  · rintro ⟨h, h2⟩; exact ⟨h, (this.1 (by omega)).2⟩
  · rintro ⟨h, h2⟩; exact ⟨h, by have := this.2 ⟨by omega, h2⟩; omega⟩
theorem due_iff {ms : List Int} {m n k l : Nat} : dueB ms m n k l = true ↔ l * n ≤ ms.length * k ∧ l ≤ pc (andL ms (2 ^ m - 1)) := by
  unfold dueB; rw [decide_eq_true_eq]
end Go.Proofs.Ythkikjidkehheaa

/- JustM: Claims and justice: plain mathematics of the promises on claims. -/
namespace Go.Proofs.Ythkikjidkehheaa
open Go.RowKit Go.Joins

theorem scan_none {p : Nat → Nat → Bool} {M : Nat} : ∀ f l, scan p M f l = none ↔ ∀ i, l ≤ i → i < l + f → ∀ g, g < M → p i g = false
  | 0, l => ⟨fun _ i h1 h2 => by omega, fun _ => rfl⟩
  | f + 1, l => by
    have ih := scan_none (p := p) (M := M) f (l + 1)
    constructor
    · intro h i h1 h2 g hg
      have hl : ∀ x, x < M → p l x = false := by
        intro x hx
        unfold scan at h
        cases hf : (List.range M).find? (p l) with
        | none =>
          rw [List.find?_eq_none] at hf
          have := hf x (by simpa using hx)
          simpa using this
        | some y => rw [hf] at h; cases h
      rw [scan_miss hl] at h
      rcases Nat.lt_or_ge l i with h3 | h3
      · exact ih.1 h i (by omega) (by omega) g hg
      · obtain rfl : i = l := by omega
        exact hl g hg
    · intro h
      rw [scan_miss (fun x hx => h l (Nat.le_refl _) (by omega) x hx)]
      exact ih.2 (fun i h1 h2 g hg => h i (by omega) (by omega) g hg)
theorem just_iff {s : ByteArray} {c : Int} {bs : List Int} {k x : Int} (h1 : claimN s ≠ 0) (h2 : seatedB c bs k x = true) :
    justB s c bs k x = true ↔ ∀ l, 1 ≤ l → l < 1 + k.toNat → ∀ g, g < 2 ^ bs.length → badB (claimN s) bs c.toNat k.toNat x.toNat l g = false := by
  unfold justB
  rw [decide_eq_true h1, h2, wroA_yes h1 h2, Bool.true_and, Bool.true_and, Option.isNone_iff_eq_none]
  exact scan_none _ _
theorem pc_mono (a b : Nat) (ha : a < 32) (hb : b < 32) (h : a &&& b = a) : pc a ≤ pc b := by
  have : ∀ a b : Fin 32, a.val &&& b.val = a.val → pc a.val ≤ pc b.val := by decide +kernel
  exact this ⟨a, ha⟩ ⟨b, hb⟩ h
theorem orL_start (ms : List Int) : ∀ x, x &&& orL ms x = x := by
  induction ms with
  | nil => intro x; show x &&& x = x; exact Nat.and_self x
  | cons b ms ih =>
    intro x
    show x &&& orL ms (x ||| b.toNat) = x
    have h := ih (x ||| b.toNat)
    apply Nat.eq_of_testBit_eq
    intro i
    have hi := congrArg (fun n => n.testBit i) h
    simp only [Nat.testBit_and, Nat.testBit_or] at hi ⊢
    cases hx : x.testBit i
    · rfl
    · rw [hx] at hi; simpa using hi
theorem orL_mem (ms : List Int) : ∀ x, ∀ b ∈ ms, b.toNat &&& orL ms x = b.toNat := by
  induction ms with
  | nil => intro x b hb; cases hb
  | cons c ms ih =>
    intro x b hb
    rcases List.mem_cons.1 hb with rfl | hb
    · show b.toNat &&& orL ms (x ||| b.toNat) = b.toNat
      have h := orL_start ms (x ||| b.toNat)
      apply Nat.eq_of_testBit_eq
      intro i
      have hi := congrArg (fun n => n.testBit i) h
      simp only [Nat.testBit_and, Nat.testBit_or] at hi ⊢
      cases hx : b.toNat.testBit i
      · rfl
      · rw [hx] at hi; simpa using hi
    · exact ih _ b hb
theorem and_sub (a o w : Nat) (h : a &&& o = a) : (a &&& w) &&& (o &&& w) = a &&& w := by
  apply Nat.eq_of_testBit_eq
  intro i
  have hi := congrArg (fun n => n.testBit i) h
  simp only [Nat.testBit_and] at hi ⊢
  cases ha : a.testBit i
  · rfl
  · rw [ha] at hi
    cases w.testBit i
    · simp
    · simpa using hi
theorem wrong_one' {ms : List Int} {l x : Nat} (hx : x < 32) : wrongB 1 ms l x = decide (l = 1 ∧ orL (ms.map (bandI x)) 0 = 0) := by
  unfold wrongB
  rw [if_pos rfl]
  have h : mostL ms x 0 = 0 ↔ orL (ms.map (bandI x)) 0 = 0 := by
    have h1 := mostL_lt ms x 1 0
    have h2 := orL_zero (ms.map (bandI x)) 0
    rw [h2]
    constructor
    · intro h
      have h3 := (h1.1 (by omega)).2
      refine ⟨rfl, fun z hz => ?_⟩
      obtain ⟨b, hb, rfl⟩ := List.mem_map.1 hz
      have h4 := h3 b hb
      unfold bandI
      rw [Int.toNat_natCast]
      exact (pc_zero_iff _ (and_lt b x hx)).1 (by omega)
    · intro h
      have h4 := h1.2 ⟨by omega, fun b hb => by
        have h5 := h.2 _ (List.mem_map.2 ⟨b, hb, rfl⟩)
        unfold bandI at h5
        rw [Int.toNat_natCast] at h5
        rw [h5]; decide⟩
      omega
  by_cases hl : l = 1 ∧ mostL ms x 0 = 0
  · rw [decide_eq_true hl, decide_eq_true ⟨hl.1, h.1 hl.2⟩]
  · rw [decide_eq_false hl, decide_eq_false (fun hh => hl ⟨hh.1, h.2 hh.2⟩)]
/-- together wronged is wronged by someone -/
theorem two_three {ms : List Int} {l w : Nat} (hw : w < 32) (h : wrongB 2 ms l w = true) : wrongB 3 ms l w = true := by
  unfold wrongB at h ⊢
  rw [if_neg (by decide), if_pos rfl, decide_eq_true_eq] at h
  rw [if_neg (by decide), if_neg (by decide), decide_eq_true_eq, mostL_lt]
  refine ⟨by omega, fun b hb => ?_⟩
  have h1 := pc_mono (b.toNat &&& w) (orL ms 0 &&& w) (and_lt b w hw) (Nat.and_lt_two_pow (n := 5) _ hw) (and_sub _ _ _ (orL_mem ms 0 b hb))
  omega
/-- one that is wronged by the claim one is so together -/
theorem one_two {ms : List Int} {l w : Nat} (hw : w < 32) (h : wrongB 1 ms l w = true) : wrongB 2 ms l w = true := by
  rw [wrong_one' hw, decide_eq_true_eq] at h
  unfold wrongB
  rw [if_neg (by decide), if_pos rfl, decide_eq_true_eq, ← orL_band0, h.2, h.1]
  decide
end Go.Proofs.Ythkikjidkehheaa

/- LoadP: Loads are fair: plain mathematics (no group that is due is wronged together by the names that are loaded). -/
namespace Go.Proofs.Ythkikjidkehheaa

/-- a sum over the first places -/
def su (f : Nat → Nat) : Nat → Nat
  | 0 => 0
  | k + 1 => su f k + f k
theorem su_add (f g : Nat → Nat) : ∀ n, su (fun i => f i + g i) n = su f n + su g n
  | 0 => rfl
  | n + 1 => by simp only [su]; rw [su_add f g n]; omega
theorem su_mul (c : Nat) (f : Nat → Nat) : ∀ n, su (fun i => c * f i) n = c * su f n
  | 0 => rfl
  | n + 1 => by simp only [su]; rw [su_mul c f n, Nat.mul_add]
theorem su_le {f g : Nat → Nat} : ∀ {n : Nat}, (∀ i, i < n → f i ≤ g i) → su f n ≤ su g n
  | 0, _ => Nat.le_refl _
  | n + 1, h => by
    have h1 := su_le (n := n) (fun i hi => h i (by omega))
    have h2 := h n (by omega)
    simp only [su]; omega
theorem su_eq {f g : Nat → Nat} {n : Nat} (h : ∀ i, i < n → f i = g i) : su f n = su g n :=
  Nat.le_antisymm (su_le fun i hi => Nat.le_of_eq (h i hi)) (su_le fun i hi => Nat.le_of_eq (h i hi).symm)
theorem su_const (c : Nat) : ∀ n, su (fun _ => c) n = n * c
  | 0 => by simp [su]
  | n + 1 => by simp only [su]; rw [su_const c n, Nat.add_mul]; omega
theorem sumK_su (bs : List Int) (ls : List Nat) (x : Nat) : ∀ k, sumK bs ls x k = su (fun i => bitN (bs.getD i 0).toNat x * ls.getD i 0) k
  | 0 => rfl
  | k + 1 => by simp only [sumK, su]; rw [sumK_su bs ls x k]
theorem supK_su (bs : List Int) (x : Nat) : ∀ k, supK bs x k = su (fun i => bitN (bs.getD i 0).toNat x) k
  | 0 => rfl
  | k + 1 => by simp only [supK, su]; rw [supK_su bs x k]
theorem cnt_su (g : Nat) : ∀ k, cntK g k = su (bitN g) k
  | 0 => rfl
  | k + 1 => by simp only [cntK, su]; rw [cnt_su g k]
theorem bit01 (x j : Nat) : bitN x j = 0 ∨ bitN x j = 1 := by have := bitN_le x j; omega

/-- the scan finds the least share, and none only where nobody is left -/
theorem scanL_min {bs : List Int} {ls : List Nat} {den : Nat} {ns : List Nat} : ∀ x, ((scanL bs ls den ns x).1 < 0 → ∀ y, y < x → ¬ y ∈ ns → supN bs y = 0) ∧
    (0 ≤ (scanL bs ls den ns x).1 → ∀ y, y < x → ¬ y ∈ ns → supN bs y ≠ 0 → (scanL bs ls den ns x).2.1 * supN bs y ≤ topN bs ls den y * (scanL bs ls den ns x).2.2)
  | 0 => ⟨fun _ y h => by omega, fun _ y h => by omega⟩
  | x + 1 => by
    obtain ⟨i1, i2⟩ := scanL_min (bs := bs) (ls := ls) (den := den) (ns := ns) x
    have hok := scanL_ok (bs := bs) (ls := ls) (den := den) (ns := ns) x
    by_cases hf : fitsL bs ls den ns x (scanL bs ls den ns x) = true
    · rw [scanL_yes hf]
      refine ⟨fun h => by simp only at h; omega, fun _ y hy hn hs => ?_⟩
      simp only
      by_cases e : y = x
      · subst e; exact Nat.le_refl _
      · unfold fitsL at hf
        rw [Bool.and_eq_true, Bool.and_eq_true, Bool.or_eq_true, decide_eq_true_iff, decide_eq_true_iff, decide_eq_true_iff] at hf
        rcases hf.2.2 with h | h
        · exact absurd (i1 h y (by omega) hn) hs
        · have h0 : 0 ≤ (scanL bs ls den ns x).1 ∧ 1 ≤ (scanL bs ls den ns x).2.2 := by
            rcases hok with ⟨_, e2⟩ | ⟨a, e2, _, _, h3⟩
            · rw [e2] at h; simp at h
            · rw [e2]; exact ⟨Int.natCast_nonneg _, Nat.pos_of_ne_zero h3⟩
          have h1 := i2 h0.1 y (by omega) hn hs
          obtain ⟨T, hT⟩ : ∃ T, T = (scanL bs ls den ns x).2.1 := ⟨_, rfl⟩
          obtain ⟨B, hB⟩ : ∃ B, B = (scanL bs ls den ns x).2.2 := ⟨_, rfl⟩
          rw [← hT, ← hB] at h h1
          rw [← hB] at h0
          have e1 : topN bs ls den x * supN bs y * B ≤ topN bs ls den y * supN bs x * B := by
            calc topN bs ls den x * supN bs y * B = (topN bs ls den x * B) * supN bs y := Nat.mul_right_comm _ _ _
              _ ≤ (T * supN bs x) * supN bs y := Nat.mul_le_mul_right _ (Nat.le_of_lt h)
              _ = (T * supN bs y) * supN bs x := Nat.mul_right_comm _ _ _
              _ ≤ (topN bs ls den y * B) * supN bs x := Nat.mul_le_mul_right _ h1
              _ = topN bs ls den y * supN bs x * B := Nat.mul_right_comm _ _ _
          exact Nat.le_of_mul_le_mul_right e1 (by omega)
    · have hf' : fitsL bs ls den ns x (scanL bs ls den ns x) = false := by simpa using hf
      rw [scanL_no hf']
      have key : ¬ x ∈ ns → supN bs x ≠ 0 → ¬ (scanL bs ls den ns x).1 < 0 ∧ ¬ topN bs ls den x * (scanL bs ls den ns x).2.2 < (scanL bs ls den ns x).2.1 * supN bs x := fun hn hs => by
        refine ⟨fun h => hf ?_, fun h => hf ?_⟩
        · unfold fitsL; rw [decide_eq_true hs, decide_eq_true h]; simp [hn]
        · unfold fitsL; rw [decide_eq_true hs, decide_eq_true h]; simp [hn]
      refine ⟨fun h y hy hn => ?_, fun h y hy hn hs => ?_⟩
      · by_cases e : y = x
        · subst e
          rcases Nat.eq_zero_or_pos (supN bs y) with e0 | e0
          · exact e0
          · exact absurd h (key hn (by omega)).1
        · exact i1 h y (by omega) hn
      · by_cases e : y = x
        · subst e
          have := (key hn hs).2
          omega
        · exact i2 h y (by omega) hn hs
/-- what stays true of the loads -/
structure LdI (m : Nat) (bs : List Int) (U g : Nat) (s : List Nat × List Nat × Nat) : Prop where
  i1 : ∀ t, t < m → ¬ t ∈ s.1 → supN bs t ≠ 0 → ∀ i, i < bs.length → s.2.1.getD i 0 * supN bs t ≤ topN bs s.2.1 s.2.2 t
  i2 : su (fun i => s.2.1.getD i 0) bs.length = s.2.2 * (s.1.filter fun x => decide (supN bs x ≠ 0)).length
  i3 : su (fun i => bitN g i * s.2.1.getD i 0) bs.length ≤ s.2.2 * (s.1.filter fun x => decide (bitN U x = 1)).length
theorem filter_snoc (p : Nat → Bool) (ns : List Nat) (x : Nat) : ((ns ++ [x]).filter p).length = (ns.filter p).length + if p x = true then 1 else 0 := by
  rw [List.filter_append, List.length_append]
  by_cases h : p x = true <;> simp [h]
theorem ldI_step {m : Nat} {bs : List Int} {U g : Nat} {s : List Nat × List Nat × Nat} (h5 : m ≤ 5) (hlt : s.1.length < m) (hU : ∀ i, i < bs.length → bitN g i = 1 → ∀ x, x < 5 → bitN (bs.getD i 0).toNat x = 1 → bitN U x = 1) (h : LdI m bs U g s) : LdI m bs U g (stepL m bs s) := by
  obtain ⟨ns, ls, den⟩ := s
  obtain ⟨i1, i2, i3⟩ := h
  simp only at i1 i2 i3 hlt
  have hfree := free_not ns
  have hfl := free_le ns
  obtain ⟨m1, m2⟩ := scanL_min (bs := bs) (ls := ls) (den := den) (ns := ns) m
  rcases scanL_ok (bs := bs) (ls := ls) (den := den) (ns := ns) m with ⟨e0, e⟩ | ⟨a, e, ham, han, hsa⟩
  · have hz := m1 (by rw [e0]; decide)
    have hst : stepL m bs (ns, ls, den) = (ns ++ [freeN ns], ls, den) := by
      unfold stepL; simp only; rw [if_pos (by rw [e0]; decide)]
    rw [hst]
    have hf0 := hz (freeN ns) (by omega) hfree
    refine ⟨fun t ht hn hs => absurd (hz t ht (fun hm => hn (List.mem_append_left _ hm))) hs, ?_, ?_⟩
    · simp only
      rw [i2, filter_snoc, decide_eq_false (fun hh => hh hf0)]; rfl
    · simp only
      rw [filter_snoc]
      exact Nat.le_trans i3 (Nat.mul_le_mul_left _ (Nat.le_add_right _ _))
  · have hst : stepL m bs (ns, ls, den) = (ns ++ [a], loadUp bs ls a (topN bs ls den a) (supN bs a), den * supN bs a) := by
      unfold stepL; simp only; rw [e, if_neg (by simp only; omega)]; simp only [Int.toNat_natCast]
    rw [hst]
    have hmin := m2 (by rw [e]; exact Int.natCast_nonneg _)
    rw [e] at hmin
    simp only at hmin
    have j1 := i1 a ham han hsa
    obtain ⟨top, htop⟩ : ∃ top, top = topN bs ls den a := ⟨_, rfl⟩
    obtain ⟨bot, hbot⟩ : ∃ bot, bot = supN bs a := ⟨_, rfl⟩
    rw [← htop, ← hbot] at hmin j1 ⊢
    have hb1 : 1 ≤ bot := by omega
    have hl' : ∀ i, i < bs.length → (loadUp bs ls a top bot).getD i 0 = if bitN (bs.getD i 0).toNat a = 1 then top else ls.getD i 0 * bot := fun i hi => loadUp_at hi
    have hup : ∀ i, i < bs.length → bot * ls.getD i 0 ≤ (loadUp bs ls a top bot).getD i 0 := fun i hi => by
      rw [hl' i hi]
      split
      · have := j1 i hi; rw [Nat.mul_comm]; exact this
      · rw [Nat.mul_comm]; exact Nat.le_refl _
    have htop2 : top = den + su (fun i => bitN (bs.getD i 0).toNat a * ls.getD i 0) bs.length := by rw [htop, topN, sumN, sumK_su]
    have hbot2 : bot = su (fun i => bitN (bs.getD i 0).toNat a) bs.length := by rw [hbot, supN, supK_su]
    have hsum : su (fun i => (loadUp bs ls a top bot).getD i 0) bs.length = den * bot + bot * su (fun i => ls.getD i 0) bs.length := by
      have h1 : su (fun i => (loadUp bs ls a top bot).getD i 0 + bot * (bitN (bs.getD i 0).toNat a * ls.getD i 0)) bs.length = su (fun i => top * bitN (bs.getD i 0).toNat a + bot * ls.getD i 0) bs.length := su_eq fun i hi => by
        rw [hl' i hi]
        rcases bit01 (bs.getD i 0).toNat a with hb | hb
        · rw [hb, if_neg (by decide), Nat.zero_mul, Nat.mul_zero, Nat.mul_zero, Nat.mul_comm bot]; omega
        · rw [hb, if_pos rfl, Nat.one_mul, Nat.mul_one]
      rw [su_add, su_add, su_mul, su_mul, su_mul, ← hbot2] at h1
      have h2 : top * bot = den * bot + bot * su (fun i => bitN (bs.getD i 0).toNat a * ls.getD i 0) bs.length := by
        conv => lhs; rw [htop2]
        rw [Nat.add_mul, Nat.mul_comm bot]
      omega
    refine ⟨fun t ht hn hs i hi => ?_, ?_, ?_⟩
    · simp only at hn ⊢
      have hnt : ¬ t ∈ ns := fun hm => hn (List.mem_append_left _ hm)
      have k1 := i1 t ht hnt hs i hi
      have k2 := hmin t ht hnt hs
      have k3 : bot * topN bs ls den t ≤ topN bs (loadUp bs ls a top bot) (den * bot) t := by
        rw [topN, topN, sumN, sumN, sumK_su, sumK_su, Nat.mul_add, ← su_mul, Nat.mul_comm bot den]
        refine Nat.add_le_add_left (su_le fun j hj => ?_) _
        have := Nat.mul_le_mul_left (bitN (bs.getD j 0).toNat t) (hup j hj)
        rw [← Nat.mul_assoc, Nat.mul_comm bot, Nat.mul_assoc]
        exact this
      refine Nat.le_trans ?_ k3
      rw [hl' i hi]
      split
      · rw [Nat.mul_comm bot]; exact k2
      · rw [Nat.mul_right_comm, Nat.mul_comm]
        exact Nat.mul_le_mul_left _ k1
    · simp only
      rw [hsum, i2, filter_snoc, if_pos (decide_eq_true (by omega)), Nat.mul_add, Nat.mul_one, ← Nat.mul_assoc, Nat.mul_comm bot den, Nat.add_comm]
    · simp only
      rw [filter_snoc]
      by_cases hu : bitN U a = 1
      · rw [if_pos (decide_eq_true hu)]
        have h1 : su (fun i => bitN g i * (loadUp bs ls a top bot).getD i 0 + bot * ls.getD i 0) bs.length ≤ su (fun i => bot * (bitN g i * ls.getD i 0) + (loadUp bs ls a top bot).getD i 0) bs.length := su_le fun i hi => by
          have := hup i hi
          rcases bit01 g i with hb | hb
          · rw [hb, Nat.zero_mul, Nat.zero_mul, Nat.mul_zero]; omega
          · rw [hb, Nat.one_mul, Nat.one_mul]; omega
        rw [su_add, su_add, su_mul, su_mul, hsum] at h1
        have h2 := Nat.mul_le_mul_left bot i3
        rw [← Nat.mul_assoc, Nat.mul_comm bot den] at h2
        rw [Nat.mul_add, Nat.mul_one]
        omega
      · have h1 : su (fun i => bitN g i * (loadUp bs ls a top bot).getD i 0) bs.length = bot * su (fun i => bitN g i * ls.getD i 0) bs.length := by
          rw [← su_mul]
          refine su_eq fun i hi => ?_
          rcases bit01 g i with hb | hb
          · rw [hb, Nat.zero_mul, Nat.zero_mul, Nat.mul_zero]
          · rw [hb, Nat.one_mul, Nat.one_mul, hl' i hi, if_neg (fun hh => hu (hU i hi hb a (by omega) hh)), Nat.mul_comm]
        have h2 := Nat.mul_le_mul_left bot i3
        rw [← Nat.mul_assoc, Nat.mul_comm bot den] at h2
        rw [h1, Nat.mul_add]
        omega
theorem ldI_run {m : Nat} {bs : List Int} {U g : Nat} (h5 : m ≤ 5) (h6 : bs.length ≤ 6) (hU : ∀ i, i < bs.length → bitN g i = 1 → ∀ x, x < 5 → bitN (bs.getD i 0).toNat x = 1 → bitN U x = 1) : ∀ j, j ≤ m → LdI m bs U g (runL m bs j)
  | 0, _ => by
    have hz : ∀ i, (List.replicate bs.length 0).getD i 0 = 0 := fun i => by
      rw [List.getD_eq_getElem?_getD]
      rcases Nat.lt_or_ge i bs.length with hi | hi
      · simp [hi]
      · rw [List.getElem?_eq_none (by simpa using hi)]; rfl
    refine ⟨fun t _ _ _ i _ => ?_, ?_, ?_⟩
    · show (List.replicate bs.length 0).getD i 0 * _ ≤ _
      rw [hz i, Nat.zero_mul]; exact Nat.zero_le _
    · show su (fun i => (List.replicate bs.length 0).getD i 0) bs.length = 1 * 0
      rw [su_eq (g := fun _ => 0) (fun i _ => hz i), su_const, Nat.mul_zero, Nat.mul_zero]
    · show su (fun i => bitN g i * (List.replicate bs.length 0).getD i 0) bs.length ≤ 1 * 0
      rw [su_eq (g := fun _ => 0) (fun i _ => by rw [hz i, Nat.mul_zero]), su_const]
      exact Nat.le_refl _
  | j + 1, h => ldI_step h5 (by rw [(run_ok (c := m) (bs := bs) h6 j (by omega)).ns]; omega) hU (ldI_run h5 h6 hU j (by omega))
/-- where a name with ballots is left, each that is there has ballots -/
theorem all_wanted {m t : Nat} {bs : List Int} (h6 : bs.length ≤ 6) (ht : t < m) (hs : supN bs t ≠ 0) : ∀ j, j ≤ m → ¬ t ∈ (runL m bs j).1 → ((runL m bs j).1.filter fun x => decide (supN bs x ≠ 0)).length = j
  | 0, _, _ => rfl
  | j + 1, hj, hn => by
    have OK := run_ok (c := m) (bs := bs) h6 j (by omega)
    have e1 : runL m bs (j + 1) = stepL m bs (runL m bs j) := rfl
    rw [e1] at hn ⊢
    have ih := all_wanted h6 ht hs j (by omega)
    obtain ⟨⟨ns, ls, den⟩, hst⟩ : ∃ s, runL m bs j = s := ⟨_, rfl⟩
    rw [hst] at hn ih ⊢
    simp only at ih
    rcases scanL_ok (bs := bs) (ls := ls) (den := den) (ns := ns) m with ⟨e0, e⟩ | ⟨a, e, ham, han, hsa⟩
    · have hst2 : stepL m bs (ns, ls, den) = (ns ++ [freeN ns], ls, den) := by
        unfold stepL; simp only; rw [if_pos (by rw [e0]; decide)]
      rw [hst2] at hn
      simp only at hn
      have hz := (scanL_min (bs := bs) (ls := ls) (den := den) (ns := ns) m).1 (by rw [e0]; decide) t ht (fun hm => hn (List.mem_append_left _ hm))
      exact absurd hz hs
    · have hst2 : stepL m bs (ns, ls, den) = (ns ++ [a], loadUp bs ls a (topN bs ls den a) (supN bs a), den * supN bs a) := by
        unfold stepL; simp only; rw [e, if_neg (by simp only; omega)]; simp only [Int.toNat_natCast]
      rw [hst2] at hn ⊢
      simp only at hn ⊢
      rw [filter_snoc, ih (fun hm => hn (List.mem_append_left _ hm)), if_pos (decide_eq_true hsa)]
theorem mask_and : ∀ U w : Fin 32, ∀ x : Fin 5, bitN w.val x.val = 0 → pc (U.val &&& (w.val + 2 ^ x.val)) = pc (U.val &&& w.val) + bitN U.val x.val := by decide +kernel
/-- how many of those that are there one of the members approves of -/
theorem mask_cnt {U : Nat} (hU : U < 32) : ∀ ns : List Nat, ns.Nodup → (∀ x ∈ ns, x < 5) → pc (U &&& maskN ns) = (ns.filter fun x => decide (bitN U x = 1)).length := by
  intro ns
  induction h : ns.length generalizing ns with
  | zero =>
    intro _ _
    obtain rfl := List.eq_nil_of_length_eq_zero h
    show pc (U &&& 0) = 0
    rw [Nat.and_zero]; rfl
  | succ n ih =>
    intro hd hlt
    obtain ⟨ms, x, rfl⟩ : ∃ ms x, ns = ms ++ [x] := ⟨ns.dropLast, ns.getLast (by intro e; subst e; simp at h), (List.dropLast_concat_getLast _).symm⟩
    rw [List.nodup_append] at hd
    have hx : ¬ x ∈ ms := fun hm => hd.2.2 x hm x (by simp) rfl
    have hx5 := hlt x (by simp)
    have hlt' : ∀ y ∈ ms, y < 5 := fun y hy => hlt y (by simp [hy])
    obtain ⟨h1, h2⟩ := mask_ok ms hd.1 hlt'
    rw [maskN_app, filter_snoc, mask_and ⟨U, hU⟩ ⟨maskN ms, h1⟩ ⟨x, hx5⟩ (by rw [h2 x hx5, if_neg hx]), ih ms (by simpa using h) hd.1 hlt']
    rcases bit01 U x with hb | hb <;> simp [hb]
theorem pick_finL : ∀ A w : Fin 32, pc (A.val &&& w.val) < pc A.val → ∃ j : Fin 5, bitN A.val j.val = 1 ∧ bitN w.val j.val = 0 := by decide +kernel
theorem memK_has {bs : List Int} {g i : Nat} (hb : bitN g i = 1) : ∀ k, i < k → bs.getD i 0 ∈ memK bs g k
  | 0, h => by omega
  | k + 1, h => by
    by_cases e : i = k
    · subst e; rw [memK_yes hb]; simp
    · have := memK_has (bs := bs) hb k (by omega)
      by_cases hk : bitN g k = 1
      · rw [memK_yes hk]; exact List.mem_append_left _ this
      · rw [memK_no hk]; exact this
/-- no group to whom l names are due shares fewer than l of the names that are loaded -/
theorem loads_fair {m K g l : Nat} {bs : List Int} (h5 : m ≤ 5) (h6 : bs.length ≤ 6) (h1 : 1 ≤ bs.length) (hK : K ≤ m) (hr : ∀ b ∈ bs, 0 ≤ b ∧ b ≤ 31) (hg : g < 2 ^ bs.length) (hl : 1 ≤ l)
    (hd : l * bs.length ≤ (memL bs g).length * K) (ha : l ≤ pc (andL (memL bs g) (2 ^ m - 1))) (hw : pc (orL (memL bs g) 0 &&& maskN (runL m bs K).1) < l) : False := by
  have OK := run_ok (c := m) (bs := bs) h6 K hK
  have hlt5 : ∀ x ∈ (runL m bs K).1, x < 5 := fun x hx => by have := OK.lt x hx; omega
  obtain ⟨hw32, hwb⟩ := mask_ok _ OK.nd hlt5
  have hmem : ∀ b ∈ memL bs g, 0 ≤ b ∧ b ≤ 31 := fun b hb => hr b ((memL_sub bs g).subset hb)
  have hU32 : orL (memL bs g) 0 < 32 := orL_lt _ hmem 0 (by decide)
  have hcnt := mask_cnt hU32 _ OK.nd hlt5
  have hGl : (memL bs g).length = pc g := memL_len h6 hg
  have hcg := cnt_pc g bs.length h6 hg
  rw [cnt_su] at hcg
  obtain ⟨U, hUe⟩ : ∃ U, U = orL (memL bs g) 0 := ⟨_, rfl⟩
  obtain ⟨T, hTe⟩ : ∃ T, T = andL (memL bs g) (2 ^ m - 1) := ⟨_, rfl⟩
  have hUb : ∀ i, i < bs.length → bitN g i = 1 → ∀ x, x < 5 → bitN (bs.getD i 0).toNat x = 1 → bitN U x = 1 := fun i hi hb x _ hx => by
    rw [tb_bitN] at hx ⊢
    rw [hUe, orL_bit]
    exact .inr ⟨_, memK_has hb _ hi, hx⟩
  have INV := ldI_run (m := m) (bs := bs) (U := U) (g := g) h5 h6 hUb K hK
  have hTb : ∀ x, bitN T x = 1 → x < m ∧ ∀ b ∈ memL bs g, b.toNat.testBit x = true := fun x hx => by
    rw [tb_bitN, hTe, andL_bit, Nat.testBit_two_pow_sub_one, decide_eq_true_eq] at hx
    exact hx
  have hTl : T ≤ 2 ^ m - 1 := by rw [hTe]; exact andL_le _ _
  have h32 : 2 ^ m ≤ 2 ^ 5 := Nat.pow_le_pow_right (by omega) h5
  have hT32 : T < 32 := by have := Nat.two_pow_pos m; omega
  have hne : memL bs g ≠ [] := fun e => by
    rw [e] at hd
    simp only [List.length_nil, Nat.zero_mul] at hd
    have := Nat.mul_le_mul hl h1
    omega
  obtain ⟨b0, hb0⟩ := List.exists_mem_of_ne_nil _ hne
  have hTU : T &&& U = T := by
    apply Nat.eq_of_testBit_eq
    intro i
    rw [Nat.testBit_and]
    cases hi : T.testBit i with
    | false => rfl
    | true =>
      rw [hTe, andL_bit] at hi
      rw [Bool.true_and, hUe, orL_bit]
      exact .inr ⟨b0, hb0, hi.2 b0 hb0⟩
  have hle : pc (T &&& maskN (runL m bs K).1) ≤ pc (U &&& maskN (runL m bs K).1) :=
    pc_mono _ _ (Nat.and_lt_two_pow (n := 5) _ hw32) (Nat.and_lt_two_pow (n := 5) _ hw32) (and_sub T U _ hTU)
  rw [← hUe] at hw hcnt
  rw [← hTe] at ha
  obtain ⟨t, ht1, ht2⟩ := pick_finL ⟨T, hT32⟩ ⟨_, hw32⟩ (by simp only; omega)
  simp only at ht1 ht2
  obtain ⟨htm, htall⟩ := hTb _ ht1
  have htn : ¬ t.val ∈ (runL m bs K).1 := fun hm => by rw [hwb _ t.isLt, if_pos hm] at ht2; cases ht2
  have hgt : ∀ i, i < bs.length → bitN g i ≤ bitN (bs.getD i 0).toNat t.val := fun i hi => by
    rcases bit01 g i with hb | hb
    · omega
    · have := (tb_bitN _ _).2 (htall _ (memK_has hb _ hi))
      omega
  obtain ⟨S, hS⟩ : ∃ S, S = supN bs t.val := ⟨_, rfl⟩
  have hS2 : S = su (fun i => bitN (bs.getD i 0).toNat t.val) bs.length := by rw [hS, supN, supK_su]
  obtain ⟨G, hG⟩ : ∃ G, G = pc g := ⟨_, rfl⟩
  rw [← hG] at hcg hGl
  rw [hGl] at hd
  have hG1 : 1 ≤ G := by
    rcases Nat.eq_zero_or_pos G with e | e
    · rw [e, Nat.zero_mul] at hd
      have := Nat.mul_le_mul hl h1
      omega
    · exact e
  have hGS : G ≤ S := by rw [← hcg, hS2]; exact su_le hgt
  have hall := all_wanted h6 htm (by omega) K hK htn
  obtain ⟨⟨ns, ls, den⟩, hst⟩ : ∃ s, runL m bs K = s := ⟨_, rfl⟩
  rw [hst] at INV hall hcnt htn OK hw
  obtain ⟨i1, i2, i3⟩ := INV
  have hd1 := OK.d1
  simp only at i1 i2 i3 hall hcnt htn hd1 hw
  rw [hall] at i2
  rw [← hcnt] at i3
  have j1 := i1 t.val htm htn (by omega)
  rw [← hS] at j1
  obtain ⟨c, hc⟩ : ∃ c, c = pc (U &&& maskN ns) := ⟨_, rfl⟩
  rw [← hc] at i3 hw
  obtain ⟨M, hM⟩ : ∃ M, M = topN bs ls den t.val := ⟨_, rfl⟩
  rw [← hM] at j1
  obtain ⟨C, hC⟩ : ∃ C, C = su (fun i => bitN (bs.getD i 0).toNat t.val * ls.getD i 0) bs.length := ⟨_, rfl⟩
  have hM2 : M = den + C := by rw [hM, hC, topN, sumN, sumK_su]
  obtain ⟨B, hB⟩ : ∃ B, B = su (fun i => bitN g i * ls.getD i 0) bs.length := ⟨_, rfl⟩
  obtain ⟨A, hA⟩ : ∃ A, A = su (fun i => ls.getD i 0) bs.length := ⟨_, rfl⟩
  rw [← hB] at i3
  rw [← hA] at i2
  obtain ⟨n, hn⟩ : ∃ n, n = bs.length := ⟨_, rfl⟩
  rw [← hn] at j1 hC hB hA hS2 hcg hd h1 hgt
  -- the members' part of the share
  have q4 : G * M ≤ S * B + S * den := by
    have h2 : su (fun i => S * (bitN (bs.getD i 0).toNat t.val * ls.getD i 0) + M * bitN g i) n ≤ su (fun i => S * (bitN g i * ls.getD i 0) + M * bitN (bs.getD i 0).toNat t.val) n := su_le fun i hi => by
      have h3 := j1 i hi
      have h4 := hgt i hi
      rcases bit01 g i with hb | hb
      · rcases bit01 (bs.getD i 0).toNat t.val with hb2 | hb2
        · rw [hb, hb2]; omega
        · rw [hb, hb2, Nat.one_mul, Nat.zero_mul, Nat.mul_zero, Nat.mul_zero, Nat.mul_one, Nat.mul_comm S]; omega
      · have hb2 : bitN (bs.getD i 0).toNat t.val = 1 := by have := bitN_le (bs.getD i 0).toNat t.val; omega
        rw [hb, hb2]; exact Nat.le_refl _
    rw [su_add, su_add, su_mul, su_mul, su_mul, su_mul, hcg, ← hS2, ← hC, ← hB] at h2
    have h3 : M * S = S * den + S * C := by rw [hM2, Nat.mul_comm, Nat.mul_add]
    rw [Nat.mul_comm G]
    omega
  have q5 : G * M ≤ S * den * l := by
    have h2 := Nat.mul_le_mul_left S i3
    have h3 : S * (den * c) + S * den = S * den * (c + 1) := by rw [Nat.mul_add, Nat.mul_one, Nat.mul_assoc]
    have h4 := Nat.mul_le_mul_left (S * den) (show c + 1 ≤ l from hw)
    omega
  have q6 : n * M ≤ S * A := by
    have h2 : n * (G * M) ≤ S * den * (G * K) := by
      have h3 := Nat.mul_le_mul_left n q5
      have h4 : n * (S * den * l) = S * den * (l * n) := by rw [Nat.mul_comm n, Nat.mul_assoc]
      have h5 := Nat.mul_le_mul_left (S * den) hd
      omega
    have h3 : n * (G * M) = G * (n * M) := Nat.mul_left_comm _ _ _
    have h4 : S * den * (G * K) = G * (S * (den * K)) := by
      rw [Nat.mul_left_comm, Nat.mul_assoc]
    rw [h3, h4] at h2
    rw [i2]
    exact Nat.le_of_mul_le_mul_left h2 hG1
  have q7 : G * M ≤ S * B := by
    have h2 : su (fun i => M * bitN g i + S * ls.getD i 0) n ≤ su (fun i => S * (bitN g i * ls.getD i 0) + M) n := su_le fun i hi => by
      have h3 := j1 i hi
      rcases bit01 g i with hb | hb
      · rw [hb, Nat.zero_mul, Nat.mul_zero, Nat.mul_zero, Nat.mul_comm S]; omega
      · rw [hb, Nat.one_mul, Nat.mul_one, Nat.add_comm]; exact Nat.le_refl _
    rw [su_add, su_add, su_mul, su_mul, su_mul, su_const, hcg, ← hA, ← hB] at h2
    rw [Nat.mul_comm G]
    omega
  have q8 : n * M = S * A := by
    have h2 : su (fun i => S * ls.getD i 0) n ≤ su (fun _ => M) n := su_le fun i hi => by
      have := j1 i hi
      rw [Nat.mul_comm]; exact this
    rw [su_mul, su_const, ← hA] at h2
    omega
  have q9 : S * den * l ≤ G * M := by
    have h2 : n * (S * den * l) ≤ n * (G * M) := by
      have h4 : n * (S * den * l) = S * den * (l * n) := by rw [Nat.mul_comm n, Nat.mul_assoc]
      have h5 := Nat.mul_le_mul_left (S * den) hd
      have h6 : S * den * (G * K) = n * (G * M) := by
        rw [Nat.mul_left_comm n G M, q8, i2, Nat.mul_left_comm, Nat.mul_assoc]
      omega
    exact Nat.le_of_mul_le_mul_left h2 h1
  have q10 : S * B ≤ S * den * c := by
    have := Nat.mul_le_mul_left S i3
    rw [← Nat.mul_assoc] at this
    exact this
  have q11 : S * den * c < S * den * l := Nat.mul_lt_mul_of_pos_left hw (Nat.mul_pos (by omega) hd1)
  omega
end Go.Proofs.Ythkikjidkehheaa

/- BuyX: Names that are bought are just by someone, and what is left is what is not paid: plain mathematics. -/
namespace Go.Proofs.Ythkikjidkehheaa

theorem priceL_share {σ C : Nat} (hσ : 1 ≤ σ) : ∀ (l : List Nat) (left : Nat), l.Pairwise (· ≤ ·) → 1 ≤ left → left * σ ≤ C * (l.filter fun y => decide (C ≤ y * σ)).length → ∃ a b, priceL left l = some (a, b) ∧ a * σ ≤ C * b
  | [], left, _, h1, h => by
    have := Nat.mul_le_mul h1 hσ
    simp only [List.filter_nil, List.length_nil, Nat.mul_zero] at h
    omega
  | y :: ys, left, hp, h1, h => by
    rw [List.pairwise_cons] at hp
    have hl : ((y :: ys).filter fun y => decide (C ≤ y * σ)).length ≤ ys.length + 1 := List.length_filter_le _ _
    unfold priceL
    by_cases hc : left ≤ y * (ys.length + 1)
    · rw [if_pos hc]
      exact ⟨_, _, rfl, Nat.le_trans h (Nat.mul_le_mul_left _ hl)⟩
    · rw [if_neg hc]
      by_cases hy : C ≤ y * σ
      · exfalso
        have h3 := Nat.le_trans h (Nat.mul_le_mul hy hl)
        rw [Nat.mul_right_comm] at h3
        exact hc (Nat.le_of_mul_le_mul_right h3 hσ)
      · rw [List.filter_cons_of_neg (by simpa using hy)] at h
        have h4 : y * 1 ≤ y * (ys.length + 1) := Nat.mul_le_mul_left _ (by omega)
        exact priceL_share hσ ys (left - y) hp.2 (by omega) (Nat.le_trans (Nat.mul_le_mul_right _ (Nat.sub_le _ _)) h)
/-- a sum -/
def sm : List Nat → Nat
  | [] => 0
  | x :: xs => x + sm xs
theorem sm_perm {l m : List Nat} (h : l.Perm m) : sm l = sm m := by
  induction h with
  | nil => rfl
  | cons x _ ih => simp only [sm, ih]
  | swap x y l => simp only [sm]; omega
  | trans _ _ i j => exact i.trans j
theorem sm_snoc (l : List Nat) (x : Nat) : sm (l ++ [x]) = sm l + x := by
  induction l with
  | nil => simp [sm]
  | cons y l ih => simp only [List.cons_append, sm, ih]; omega
theorem sm_const {f : Nat → Nat} {c : Nat} : ∀ l : List Nat, (∀ z ∈ l, f z = c) → sm (l.map f) = l.length * c
  | [], _ => by simp [sm]
  | z :: l, h => by
    simp only [List.map_cons, sm, List.length_cons]
    rw [h z (by simp), sm_const l (fun y hy => h y (by simp [hy])), Nat.add_mul]
    omega
theorem priceL_low {y : Nat} : ∀ (l : List Nat) (left a b : Nat), (∀ z ∈ l, y ≤ z) → y * l.length ≤ left → priceL left l = some (a, b) → y * b ≤ a
  | [], _, _, _, _, _, h => by cases h
  | z :: zs, left, a, b, hz, hy, h => by
    unfold priceL at h
    split at h
    · cases h; exact hy
    · rename_i hc
      have h1 := hz z (by simp)
      have h2 : y * zs.length ≤ z * zs.length := Nat.mul_le_mul_right _ h1
      rw [Nat.mul_add] at hc
      exact priceL_low zs (left - z) a b (fun x hx => hz x (by simp [hx])) (by omega) h
theorem priceL_sum : ∀ (l : List Nat) (left a b : Nat), l.Pairwise (· ≤ ·) → priceL left l = some (a, b) → sm (l.map fun y => min (y * b) a) = b * left
  | [], _, _, _, _, h => by cases h
  | y :: ys, left, a, b, hp, h => by
    rw [List.pairwise_cons] at hp
    unfold priceL at h
    split at h
    · rename_i hc
      cases h
      rw [sm_const (c := left) _ (fun z hz => by
        have : y ≤ z := by
          rcases List.mem_cons.1 hz with rfl | hz
          · exact Nat.le_refl _
          · exact hp.1 z hz
        have := Nat.mul_le_mul_right (ys.length + 1) this
        omega), List.length_cons]
    · rename_i hc
      have h1 := priceL_sum ys (left - y) a b hp.2 h
      rw [Nat.mul_add] at hc
      have h2 := priceL_low ys (left - y) a b hp.1 (by omega) h
      simp only [List.map_cons, sm]
      rw [h1, Nat.mul_sub, Nat.min_eq_left h2, Nat.mul_comm y b]
      have : b * y ≤ b * left := Nat.mul_le_mul_left _ (by omega)
      omega
theorem priceN_sum {ms : List Nat} {cost a b : Nat} (h : priceN ms cost = some (a, b)) : sm (ms.map fun y => min (y * b) a) = b * cost := by
  rw [← priceL_sum _ _ _ _ (srt_ord ms) h]
  exact (sm_perm ((srt_perm ms).map _)).symm
theorem mineK_sm (bs : List Int) (ps : List Nat) (x : Nat) (f : Nat → Nat) : ∀ k, sm ((mineK bs ps x k).map f) = su (fun i => bitN (bs.getD i 0).toNat x * f (ps.getD i 0)) k
  | 0 => rfl
  | k + 1 => by
    simp only [su]
    rcases bit01 (bs.getD k 0).toNat x with h | h
    · rw [mineK_no (by omega), mineK_sm bs ps x f k, h]; omega
    · rw [mineK_yes h, List.map_append, List.map_singleton, sm_snoc, mineK_sm bs ps x f k, h]; omega
theorem mineK_cnt (bs : List Int) (ps : List Nat) (x : Nat) (p : Nat → Bool) : ∀ k, ((mineK bs ps x k).filter p).length = su (fun i => if bitN (bs.getD i 0).toNat x = 1 ∧ p (ps.getD i 0) = true then 1 else 0) k
  | 0 => rfl
  | k + 1 => by
    simp only [su]
    rcases bit01 (bs.getD k 0).toNat x with h | h
    · rw [mineK_no (by omega), mineK_cnt bs ps x p k, if_neg (by omega)]; rfl
    · rw [mineK_yes h, filter_snoc, mineK_cnt bs ps x p k]
      by_cases hp : p (ps.getD k 0) = true
      · rw [if_pos hp, if_pos ⟨h, hp⟩]
      · rw [if_neg hp, if_neg (fun e => hp e.2)]
/-- what is left and what is paid -/
theorem pay_sum {bs : List Int} {ps : List Nat} {q a b : Nat} : su (fun i => (payUp bs ps q a b).getD i 0) bs.length + su (fun i => bitN (bs.getD i 0).toNat q * min (ps.getD i 0 * b) a) bs.length = b * su (fun i => ps.getD i 0) bs.length := by
  rw [← su_add, ← su_mul]
  refine su_eq fun i hi => ?_
  rw [payUp_at hi]
  rcases bit01 (bs.getD i 0).toNat q with h | h
  · rw [if_neg (by omega), h, Nat.mul_comm b]; omega
  · rw [if_pos h, h, Nat.mul_comm b]; omega
/-- all that is left and all that is paid -/
def TotB (bs : List Int) (K : Nat) (s : List Nat × List Nat × Nat) : Prop := su (fun i => s.2.1.getD i 0) bs.length + s.1.length * (bs.length * s.2.2) = K * (bs.length * s.2.2)
theorem tot_step {c : Nat} {bs : List Int} {K : Nat} {s : List Nat × List Nat × Nat} (h : TotB bs K s) : TotB bs K (stepB c bs s) := by
  obtain ⟨ns, ps, den⟩ := s
  unfold TotB at h ⊢
  simp only at h
  rcases scanB_ok (sh := shB bs ps den) (ns := ns) c with ⟨e0, e⟩ | ⟨q, a, b, e, hq, hn, hs⟩
  · rw [stepB_none rfl (by rw [e0]; decide)]; exact h
  · rw [stepB_some e]
    simp only
    have h1 := pay_sum (bs := bs) (ps := ps) (q := q) (a := a) (b := b)
    have h2 := priceN_sum (show priceN (mineK bs ps q bs.length) (bs.length * den) = some (a, b) from hs)
    rw [mineK_sm] at h2
    rw [h2] at h1
    obtain ⟨S, hS⟩ : ∃ S, S = su (fun i => ps.getD i 0) bs.length := ⟨_, rfl⟩
    obtain ⟨S', hS'⟩ : ∃ S', S' = su (fun i => (payUp bs ps q a b).getD i 0) bs.length := ⟨_, rfl⟩
    rw [← hS, ← hS'] at h1
    rw [← hS] at h
    rw [← hS', List.length_append, List.length_singleton]
    have e1 : bs.length * (den * b) = b * (bs.length * den) := by rw [← Nat.mul_assoc, Nat.mul_comm]
    rw [e1]
    obtain ⟨X, hX⟩ : ∃ X, X = bs.length * den := ⟨_, rfl⟩
    rw [← hX] at h h1 ⊢
    have e2 : K * (b * X) = b * (K * X) := Nat.mul_left_comm _ _ _
    have e3 : (ns.length + 1) * (b * X) = b * (ns.length * X) + b * X := by rw [Nat.add_mul, Nat.one_mul, Nat.mul_left_comm]
    rw [e2, e3, ← h, Nat.mul_add]
    omega
theorem tot_run {c : Nat} {bs : List Int} {K : Nat} : ∀ j, TotB bs K (runB c bs K j)
  | 0 => by
    unfold TotB runB
    simp only [List.length_nil, Nat.zero_mul, Nat.add_zero, Nat.mul_one]
    rw [su_eq (g := fun _ => K) (fun i hi => by simp [hi]), su_const, Nat.mul_comm]
  | j + 1 => tot_step (tot_run j)
/-- the scan finds the least share, and none only where nothing can be bought -/
theorem scanB_min {sh : Nat → Option (Nat × Nat)} {ns : List Nat} (hpos : ∀ x a b, sh x = some (a, b) → 1 ≤ b) : ∀ x, ((scanB sh ns x).1 < 0 → ∀ y, y < x → ¬ y ∈ ns → sh y = none) ∧
    (0 ≤ (scanB sh ns x).1 → ∀ y, y < x → ¬ y ∈ ns → ∀ a b, sh y = some (a, b) → (scanB sh ns x).2.1 * b ≤ a * (scanB sh ns x).2.2)
  | 0 => ⟨fun _ y h => by omega, fun _ y h => by omega⟩
  | x + 1 => by
    obtain ⟨i1, i2⟩ := scanB_min (ns := ns) hpos x
    have hok := scanB_ok (sh := sh) (ns := ns) x
    by_cases hf : takesB sh ns x (scanB sh ns x) = true
    · have h0 := hf
      unfold takesB at hf
      split at hf
      · cases hf
      · rename_i a0 b0 hs0
        rw [scanB_yes h0 hs0]
        refine ⟨fun h => by simp only at h; omega, fun _ y hy hn a b hs => ?_⟩
        simp only
        by_cases e : y = x
        · subst e
          rw [hs0] at hs
          cases hs
          exact Nat.le_refl _
        · rw [Bool.and_eq_true, Bool.or_eq_true, decide_eq_true_iff, decide_eq_true_iff] at hf
          rcases hf.2 with h | h
          · rw [i1 h y (by omega) hn] at hs; cases hs
          · rcases hok with ⟨e1, e2⟩ | ⟨q, ra, rb, e2, _, _, h3⟩
            · rw [i1 (by rw [e1]; decide) y (by omega) hn] at hs; cases hs
            · have h4 := i2 (by rw [e2]; exact Int.natCast_nonneg _) y (by omega) hn a b hs
              rw [e2] at h h4
              simp only at h h4
              have hb := hpos _ _ _ h3
              have h5 : a0 * rb * b ≤ ra * b0 * b := Nat.mul_le_mul_right _ (Nat.le_of_lt h)
              have h6 : b0 * (ra * b) ≤ b0 * (a * rb) := Nat.mul_le_mul_left _ h4
              have e5 : a0 * rb * b = a0 * b * rb := Nat.mul_right_comm _ _ _
              have e6 : ra * b0 * b = b0 * (ra * b) := by ac_rfl
              have e7 : b0 * (a * rb) = a * b0 * rb := by ac_rfl
              exact Nat.le_of_mul_le_mul_right (c := rb) (by omega) hb
    · have hf' : takesB sh ns x (scanB sh ns x) = false := by simpa using hf
      rw [scanB_no hf']
      refine ⟨fun h y hy hn => ?_, fun h y hy hn a b hs => ?_⟩
      · by_cases e : y = x
        · subst e
          cases hs : sh y with
          | none => rfl
          | some ab =>
            obtain ⟨a, b⟩ := ab
            rw [takesB_new hn hs h] at hf'
            cases hf'
        · exact i1 h y (by omega) hn
      · by_cases e : y = x
        · subst e
          rw [takesB_less hn hs (by omega)] at hf'
          have := of_decide_eq_false hf'
          omega
        · exact i2 h y (by omega) hn a b hs
/-- how many of those that are there a ballot approves of -/
def uB (bs : List Int) (ns : List Nat) (i : Nat) : Nat := (ns.filter fun x => decide (bitN (bs.getD i 0).toNat x = 1)).length
/-- nobody of the group has paid more than a fair part for a name -/
def FairB (bs : List Int) (K g σ : Nat) (s : List Nat × List Nat × Nat) : Prop := ∀ i, i < bs.length → bitN g i = 1 → s.2.2 * (K * σ) ≤ s.2.1.getD i 0 * σ + s.2.2 * (bs.length * uB bs s.1 i)
theorem fair_price {bs : List Int} {K g σ l t : Nat} {ns ps : List Nat} {den : Nat} (hσ : su (bitN g) bs.length = σ) (h1 : 1 ≤ σ) (hd : l * bs.length ≤ σ * K) (hd1 : 1 ≤ den) (hn1 : 1 ≤ bs.length)
    (ht : ∀ i, i < bs.length → bitN g i = 1 → bitN (bs.getD i 0).toNat t = 1) (hu : ∀ i, i < bs.length → bitN g i = 1 → uB bs ns i < l) (h : FairB bs K g σ (ns, ps, den)) :
    ∃ a b, shB bs ps den t = some (a, b) ∧ a * σ ≤ bs.length * den * b := by
  have hC : 1 ≤ bs.length * den := Nat.mul_pos hn1 hd1
  have hps : ∀ i, i < bs.length → bitN g i = 1 → bs.length * den ≤ ps.getD i 0 * σ := fun i hi hb => by
    have h2 := h i hi hb
    have h3 := hu i hi hb
    simp only at h2
    obtain ⟨u, hue⟩ : ∃ u, u = uB bs ns i := ⟨_, rfl⟩
    rw [← hue] at h2 h3
    have h4 : bs.length * den * (u + 1) ≤ bs.length * den * l := Nat.mul_le_mul_left _ h3
    have h5 : den * (l * bs.length) ≤ den * (σ * K) := Nat.mul_le_mul_left _ hd
    have e1 : bs.length * den * l = den * (l * bs.length) := by ac_rfl
    have e2 : den * (σ * K) = den * (K * σ) := by ac_rfl
    have e3 : den * (bs.length * u) = bs.length * den * u := by ac_rfl
    rw [Nat.mul_add, Nat.mul_one] at h4
    omega
  have hcnt : σ ≤ ((mineK bs ps t bs.length).filter fun y => decide (bs.length * den ≤ y * σ)).length := by
    rw [mineK_cnt, ← hσ]
    refine su_le fun i hi => ?_
    rcases bit01 g i with hb | hb
    · omega
    · rw [hσ, if_pos ⟨ht i hi hb, decide_eq_true (hps i hi hb)⟩]; omega
  have hp : ((srtN (mineK bs ps t bs.length)).filter fun y => decide (bs.length * den ≤ y * σ)).length = ((mineK bs ps t bs.length).filter fun y => decide (bs.length * den ≤ y * σ)).length := ((srt_perm _).filter _).length_eq
  exact priceL_share h1 _ _ (srt_ord _) hC (by rw [hp]; exact Nat.mul_le_mul_left _ hcnt)
theorem fair_step {m K g σ l t : Nat} {bs : List Int} {s : List Nat × List Nat × Nat} (hσ : su (bitN g) bs.length = σ) (h1 : 1 ≤ σ) (hd : l * bs.length ≤ σ * K) (hd1 : 1 ≤ s.2.2) (hn1 : 1 ≤ bs.length)
    (ht : ∀ i, i < bs.length → bitN g i = 1 → bitN (bs.getD i 0).toNat t = 1) (hu : ∀ i, i < bs.length → bitN g i = 1 → uB bs s.1 i < l) (htm : t < m) (htn : ¬ t ∈ s.1) (h : FairB bs K g σ s) :
    FairB bs K g σ (stepB m bs s) ∧ (stepB m bs s).1.length = s.1.length + 1 := by
  obtain ⟨ns, ps, den⟩ := s
  simp only at hd1 hu htn
  obtain ⟨a, b, hs, hab⟩ := fair_price hσ h1 hd hd1 hn1 ht hu h
  obtain ⟨m1, m2⟩ := scanB_min (sh := shB bs ps den) (ns := ns) (fun x a b e => (shB_in e).2.1) m
  rcases scanB_ok (sh := shB bs ps den) (ns := ns) m with ⟨e0, e⟩ | ⟨q, qa, qb, e, hq, hqn, hqs⟩
  · have := m1 (by rw [e0]; decide) t htm htn
    rw [this] at hs; cases hs
  · have h2 := m2 (by rw [e]; exact Int.natCast_nonneg _) t htm htn a b hs
    rw [e] at h2
    simp only at h2
    have hb1 := (shB_in hs).2.1
    have hqa : qa * σ ≤ bs.length * den * qb := by
      have h3 : qa * b * σ ≤ a * qb * σ := Nat.mul_le_mul_right _ h2
      have h4 : qb * (a * σ) ≤ qb * (bs.length * den * b) := Nat.mul_le_mul_left _ hab
      have e3 : qa * b * σ = qa * σ * b := Nat.mul_right_comm _ _ _
      have e4 : a * qb * σ = qb * (a * σ) := by ac_rfl
      have e5 : qb * (bs.length * den * b) = bs.length * den * qb * b := by ac_rfl
      exact Nat.le_of_mul_le_mul_right (c := b) (by omega) hb1
    rw [stepB_some e]
    refine ⟨fun i hi hb => ?_, by simp⟩
    have h3 := Nat.mul_le_mul_left qb (h i hi hb)
    simp only at h3 ⊢
    rw [payUp_at hi]
    have huq : uB bs (ns ++ [q]) i = uB bs ns i + bitN (bs.getD i 0).toNat q := by
      unfold uB
      rw [filter_snoc]
      rcases bit01 (bs.getD i 0).toNat q with hx | hx <;> (rw [hx]; rfl)
    rw [huq]
    obtain ⟨u, hue⟩ : ∃ u, u = uB bs ns i := ⟨_, rfl⟩
    rw [← hue] at h3 ⊢
    obtain ⟨p, hpe⟩ : ∃ p, p = ps.getD i 0 := ⟨_, rfl⟩
    rw [← hpe] at h3 ⊢
    have e1 : den * qb * (K * σ) = qb * (den * (K * σ)) := by ac_rfl
    have e2 : qb * (p * σ + den * (bs.length * u)) = p * qb * σ + den * qb * (bs.length * u) := by
      rw [Nat.mul_add]
      have x1 : qb * (p * σ) = p * qb * σ := by ac_rfl
      have x2 : qb * (den * (bs.length * u)) = den * qb * (bs.length * u) := by ac_rfl
      rw [x1, x2]
    rw [e2] at h3
    rw [e1]
    rcases bit01 (bs.getD i 0).toNat q with hx | hx
    · rw [if_neg (by omega), hx, Nat.add_zero]
      exact h3
    · rw [if_pos hx, hx, Nat.mul_add bs.length, Nat.mul_add (den * qb), Nat.mul_one, Nat.sub_mul]
      have e3 : den * qb * bs.length = bs.length * den * qb := by ac_rfl
      omega
theorem runB_pre {c : Nat} {bs : List Int} {k j : Nat} : ∀ d, ∃ r, (runB c bs k (j + d)).1 = (runB c bs k j).1 ++ r
  | 0 => ⟨[], by simp⟩
  | d + 1 => by
    obtain ⟨r, hr⟩ := runB_pre (c := c) (bs := bs) (k := k) (j := j) d
    obtain ⟨⟨ns, ps, den⟩, hs⟩ : ∃ s, runB c bs k (j + d) = s := ⟨_, rfl⟩
    have hst : runB c bs k (j + (d + 1)) = stepB c bs (ns, ps, den) := by rw [← hs]; rfl
    rw [hs] at hr
    simp only at hr
    rcases scanB_ok (sh := shB bs ps den) (ns := ns) c with ⟨e0, e⟩ | ⟨q, a, b, e, _⟩
    · exact ⟨r, by rw [hst, stepB_none rfl (by rw [e0]; decide)]; exact hr⟩
    · exact ⟨r ++ [q], by rw [hst, stepB_some e]; simp only; rw [hr, List.append_assoc]⟩
/-- no group to whom l names are due has nobody with l of the names that are bought -/
theorem bought_fair {m K g l : Nat} {bs : List Int} (h5 : m ≤ 5) (h6 : bs.length ≤ 6) (h1 : 1 ≤ bs.length) (hr : ∀ b ∈ bs, 0 ≤ b ∧ b ≤ 31) (hg : g < 2 ^ bs.length) (hl : 1 ≤ l)
    (hd : l * bs.length ≤ (memL bs g).length * K) (ha : l ≤ pc (andL (memL bs g) (2 ^ m - 1))) (hw : ∀ b ∈ memL bs g, pc (b.toNat &&& maskN (runB m bs K (m + 1)).1) < l) : False := by
  have OK := runB_ok (c := m) (bs := bs) (k := K) h6 (m + 1)
  have hlt5 : ∀ x ∈ (runB m bs K (m + 1)).1, x < 5 := fun x hx => by have := OK.lt x hx; omega
  obtain ⟨hw32, hwb⟩ := mask_ok _ OK.nd hlt5
  have hGl : (memL bs g).length = pc g := memL_len h6 hg
  have hcg := cnt_pc g bs.length h6 hg
  rw [cnt_su] at hcg
  obtain ⟨T, hTe⟩ : ∃ T, T = andL (memL bs g) (2 ^ m - 1) := ⟨_, rfl⟩
  have hTb : ∀ x, bitN T x = 1 → x < m ∧ ∀ b ∈ memL bs g, b.toNat.testBit x = true := fun x hx => by
    rw [tb_bitN, hTe, andL_bit, Nat.testBit_two_pow_sub_one, decide_eq_true_eq] at hx
    exact hx
  have hTl : T ≤ 2 ^ m - 1 := by rw [hTe]; exact andL_le _ _
  have h32 : 2 ^ m ≤ 2 ^ 5 := Nat.pow_le_pow_right (by omega) h5
  have hT32 : T < 32 := by have := Nat.two_pow_pos m; omega
  have hne : memL bs g ≠ [] := fun e => by
    rw [e] at hd
    simp only [List.length_nil, Nat.zero_mul] at hd
    have := Nat.mul_le_mul hl h1
    omega
  obtain ⟨b0, hb0⟩ := List.exists_mem_of_ne_nil _ hne
  have hTU : T &&& b0.toNat = T := by
    apply Nat.eq_of_testBit_eq
    intro i
    rw [Nat.testBit_and]
    cases hi : T.testBit i with
    | false => rfl
    | true =>
      rw [hTe, andL_bit] at hi
      rw [Bool.true_and]
      exact hi.2 b0 hb0
  have hle : pc (T &&& maskN (runB m bs K (m + 1)).1) ≤ pc (b0.toNat &&& maskN (runB m bs K (m + 1)).1) :=
    pc_mono _ _ (Nat.and_lt_two_pow (n := 5) _ hw32) (Nat.and_lt_two_pow (n := 5) _ hw32) (and_sub T b0.toNat _ hTU)
  have hw0 := hw b0 hb0
  rw [← hTe] at ha
  obtain ⟨t, ht1, ht2⟩ := pick_finL ⟨T, hT32⟩ ⟨_, hw32⟩ (by simp only; omega)
  simp only at ht1 ht2
  obtain ⟨htm, htall⟩ := hTb _ ht1
  have htn : ¬ t.val ∈ (runB m bs K (m + 1)).1 := fun hm => by rw [hwb _ t.isLt, if_pos hm] at ht2; cases ht2
  have hgt : ∀ i, i < bs.length → bitN g i = 1 → bitN (bs.getD i 0).toNat t.val = 1 := fun i hi hb => (tb_bitN _ _).2 (htall _ (memK_has hb _ hi))
  have huf : ∀ i, i < bs.length → bitN g i = 1 → uB bs (runB m bs K (m + 1)).1 i < l := fun i hi hb => by
    have hm := memK_has (bs := bs) hb _ hi
    have h2 := hw _ hm
    have h3 := hr _ ((memL_sub bs g).subset hm)
    rw [mask_cnt (by omega) _ OK.nd hlt5] at h2
    exact h2
  obtain ⟨G, hG⟩ : ∃ G, G = pc g := ⟨_, rfl⟩
  rw [← hG] at hcg hGl
  rw [hGl] at hd
  have hG1 : 1 ≤ G := by
    rcases Nat.eq_zero_or_pos G with e | e
    · rw [e, Nat.zero_mul] at hd
      have := Nat.mul_le_mul hl h1
      omega
    · exact e
  have key : ∀ j, j ≤ m + 1 → FairB bs K g G (runB m bs K j) ∧ (runB m bs K j).1.length = j := by
    intro j
    induction j with
    | zero =>
      intro _
      refine ⟨fun i hi _ => ?_, rfl⟩
      simp only [runB]
      rw [List.getD_eq_getElem?_getD, List.getElem?_eq_getElem (by simpa using hi)]
      simp
    | succ j ih =>
      intro hj
      obtain ⟨i1, i2⟩ := ih (by omega)
      obtain ⟨r, hpre⟩ := runB_pre (c := m) (bs := bs) (k := K) (j := j) (m + 1 - j)
      rw [show j + (m + 1 - j) = m + 1 from by omega] at hpre
      have OKj := runB_ok (c := m) (bs := bs) (k := K) h6 j
      have := fair_step (m := m) hcg hG1 hd OKj.d1 h1 hgt (fun i hi hb => by
        have h2 := huf i hi hb
        unfold uB at h2 ⊢
        rw [hpre, List.filter_append, List.length_append] at h2
        omega) htm (fun hm => htn (by rw [hpre]; exact List.mem_append_left _ hm)) i1
      exact ⟨this.1, by rw [show runB m bs K (j + 1) = stepB m bs (runB m bs K j) from rfl, this.2, i2]⟩
  have h7 := (key (m + 1) (Nat.le_refl _)).2
  have h8 := nodup_most OK.nd OK.lt
  omega
end Go.Proofs.Ythkikjidkehheaa

/- Mask: The committee of names: CommitteeOf in the model and in the program. -/
namespace Go.Proofs.Ythkikjidkehheaa
open Go.RowKit Go.Joins

/-- all of a list are names -/
def NamesOk (zs : List Int) : Prop := ∀ j, j < zs.length → 0 ≤ zs.getD j 0 ∧ zs.getD j 0 ≤ 4
instance (zs : List Int) : Decidable (NamesOk zs) := by unfold NamesOk; infer_instance
/-- the first k names of a list together -/
def maskK (zs : List Int) : Nat → Nat
  | 0 => 0
  | k + 1 => maskK zs k ||| 2 ^ (zs.getD k 0).toNat
theorem maskK_lt (zs : List Int) : ∀ k, (∀ j, j < k → 0 ≤ zs.getD j 0 ∧ zs.getD j 0 ≤ 4) → maskK zs k < 32
  | 0, _ => by show 0 < 32; omega
  | k + 1, h => by
    have ih := maskK_lt zs k (fun j hj => h j (by omega))
    have hk := h k (by omega)
    have h2 : 2 ^ (zs.getD k 0).toNat < 2 ^ 5 := Nat.pow_lt_pow_right (by omega) (by omega)
    exact Nat.or_lt_two_pow (n := 5) ih h2
/-- what CommitteeOf answers -/
def maskV (zs : List Int) : Int := if NamesOk zs then (maskK zs zs.length : Int) else -1
theorem maskV_yes {zs : List Int} (h : NamesOk zs) : maskV zs = (maskK zs zs.length : Int) := if_pos h
theorem maskV_no {zs : List Int} (h : ¬ NamesOk zs) : maskV zs = -1 := if_neg h
theorem or_name (zs : List Int) (k : Nat) (x : Int) (hx : zs.getD k 0 = x) (h0 : 0 ≤ x) (h4 : x ≤ 4) (hm : maskK zs k < 32) : bits .or .i64 (maskK zs k : Int) (pw x) = (maskK zs (k + 1) : Nat) := by
  have h2 : 2 ^ x.toNat < 2 ^ 5 := Nat.pow_lt_pow_right (by omega) (by omega)
  have e : pw x = ((2 ^ x.toNat : Nat) : Int) := rfl
  rw [e, or_big _ _ (by omega) (by omega)]
  show _ = ((maskK zs k ||| 2 ^ (zs.getD k 0).toNat : Nat) : Int)
  rw [hx]

set_option maxHeartbeats 1000000 in
theorem implMask_any (a : Option Addr) (cap : Nat) (zs : List Int) (w : World) (hi : Ints w a zs) (hn : zs.length ≤ 1048576) :
    Calls Try.prog 18 #[.slice a zs.length cap] w fun e w' => e = .returned (.int .i64 (maskV zs)) ∧ Below w.heap.size w w' := by
  go_enter Try.func18, Try.ntmps18
  go_wp2
  go_loop [3, 8] (fun o i => ∃ k : Nat, k ≤ zs.length ∧ i = .int .i64 k ∧ o = .int .i64 (maskK zs k) ∧ (∀ j, j < k → 0 ≤ zs.getD j 0 ∧ zs.getD j 0 ≤ 4)) (fun _ i => zs.length - (intOf i).toNat)
  case atStart => exact ⟨0, Nat.zero_le _, rfl, rfl, fun j hj => by omega⟩
  case round =>
    obtain ⟨k, hkl, rfl, rfl, hall⟩ := hrel
    have HA := hide hall
    clear hall
    by_cases hlt : k < zs.length
    · obtain ⟨b, off, rfl, hbl, hc⟩ := hi (by omega)
      have hck := hc k hlt
      rw [getD_lt hlt] at hck
      clear hc hi
      by_cases h0 : 0 ≤ zs[k]
      · by_cases h4 : zs[k] ≤ 4
        · have hor := or_name zs k zs[k] (getD_lt hlt) h0 h4 (maskK_lt zs k HA.out)
          have hwp := wrap_pow5 zs[k] (by omega)
          go_wp2
          go_round
          case rel => exact ⟨k + 1, by omega, by go_num, rfl, fun j hj => by
            rcases Nat.lt_or_ge j k with h | h
            · exact HA.out j h
            · obtain rfl : j = k := by omega
              rw [getD_lt hlt]
              exact ⟨h0, h4⟩⟩
          case measure => simp only [intOf]; omega
        · have HN := hide (maskV_no (fun h : NamesOk zs => h4 (by have := (h k hlt).2; rwa [getD_lt hlt] at this)))
          go_wp2
          go_ret
          exact ⟨ret_int HN.out.symm, Below.refl _ _⟩
      · have HN := hide (maskV_no (fun h : NamesOk zs => h0 (by have := (h k hlt).1; rwa [getD_lt hlt] at this)))
        go_wp2
        go_ret
        exact ⟨ret_int HN.out.symm, Below.refl _ _⟩
    · obtain rfl : k = zs.length := by omega
      have HN := hide (maskV_yes HA.out)
      go_wp2
      go_ret
      exact ⟨ret_int HN.out.symm, Below.refl _ _⟩
end Go.Proofs.Ythkikjidkehheaa

/- WroI: Groups that are wronged, in the program: members, what is due, claims. -/
namespace Go.Proofs.Ythkikjidkehheaa
open Go.RowKit Go.Joins

theorem shr_bit6 (y j : Nat) (hx : y < 64) (hj : j ≤ 6) : bits .and .i64 ((y : Int) / 2 ^ j) 1 = (bitN y j : Nat) := by
  have h : ∀ y : Fin 64, ∀ j : Fin 7, bits .and .i64 (((y.val : Nat) : Int) / 2 ^ j.val) 1 = ((bitN y.val j.val : Nat) : Int) := by decide +kernel
  exact h ⟨y, hx⟩ ⟨j, by omega⟩
set_option maxHeartbeats 1000000 in
theorem membersOf_any (a : Option Addr) (cap : Nat) (bs : List Int) (g : Nat) (w : World) (hi : Ints w a bs) (hl6 : bs.length ≤ 6) (hg : g < 64) :
    Calls Try.prog 64 #[.slice a bs.length cap, .int .i64 g] w (Gives (memL bs g) w) := by
  obtain ⟨i0, hi0, hz0, hz1, hz2⟩ := info_parts info_int
  go_enter Try.func64, Try.ntmps64
  go_wp2_with fail
  go_loopw [5, 10] (fun v i wr => ∃ k : Nat, k ≤ bs.length ∧ i = .int .i64 k ∧ Owns wr w.heap.size v (memK bs g k) ∧ Below w.heap.size w wr) (fun _ i _ => bs.length - (intOf i).toNat)
  case atStart => exact ⟨0, Nat.zero_le _, rfl, World.ownsRow_nil _ _ _ _, Below.refl _ _⟩
  case round =>
    obtain ⟨k, hk, rfl, hown, hb⟩ := hrel
    have hml := memK_len bs g k
    by_cases hlt : k < bs.length
    · obtain ⟨b, off, rfl, hbl, hc⟩ := (hi.below hb) (by omega)
      have hck := hc k hlt
      rw [getD_lt hlt] at hck
      have hsz := hb.size
      have hsh := shr_bit6 g k hg (by omega)
      have hb1 := bitN_le g k
      clear hc hi
      by_cases h1 : bitN g k = 1
      · have HY := hide (memK_yes (bs := bs) h1)
        rw [getD_lt hlt] at HY
        rw [h1] at hsh
        clear h1 hb1
        go_wp2_with ((at_builtin; refine wpList_append_own _ rfl _ _ 22 rfl w.heap.size 3 i0 (.int .i64 0) 1 8 Try.underlying22 hi0 hz0 hz1 hz2 rfl (by decide) _ _ _ rfl (hown.alloc _) ⟨wr.heap.size, 0, none⟩ 1 1 [.int .i64 bs[k]] rfl rfl ?c1 ?c2 ?c3 ?c4 ?c5 ?_))
        case c1 => exact cell_one_new _ _ _
        case c2 => intro u hu; simp at hu; subst hu; rfl
        case c3 => unfold maxLen; omega
        case c4 => omega
        case c5 => simp; omega
        intro v' w2 hown' hgrow _
        have hpush := hide (Owns.push hown')
        have hbel : Below w.heap.size w w2 := (hb.alloc hsz _).grown hgrow (by simp; omega) (fun j hj => own_ge hown j hj)
        clear hown' hgrow hown
        go_wp2
        go_roundw
        case rel => exact ⟨k + 1, by omega, by go_num, by rw [HY.out]; exact hpush.out, hbel⟩
        case measure => simp only [intOf]; omega
      · have HY := hide (memK_no (bs := bs) h1)
        have h0 : bitN g k = 0 := by omega
        rw [h0] at hsh
        clear h1 h0 hb1
        go_wp2
        go_roundw
        case rel => exact ⟨k + 1, by omega, by go_num, by rw [HY.out]; exact hown, hb⟩
        case measure => simp only [intOf]; omega
    · obtain rfl : k = bs.length := by omega
      go_wp2
      go_ret
      exact ⟨_, rfl, hown, hb⟩
theorem take_snoc {zs : List Int} {k : Nat} (h : k < zs.length) : zs.take (k + 1) = zs.take k ++ [zs[k]] := by
  rw [List.take_add_one, List.getElem?_eq_getElem h]; rfl
theorem andL_take {zs : List Int} {k x : Nat} (h : k < zs.length) : andL (zs.take (k + 1)) x = andL (zs.take k) x &&& zs[k].toNat := by rw [take_snoc h, andL_snoc]
theorem orL_take {zs : List Int} {k x : Nat} (h : k < zs.length) : orL (zs.take (k + 1)) x = orL (zs.take k) x ||| zs[k].toNat := by rw [take_snoc h, orL_snoc]
set_option maxHeartbeats 1000000 in
theorem unionOf_any (a : Option Addr) (cap : Nat) (zs : List Int) (w : World) (hi : Ints w a zs) (hl6 : zs.length ≤ 6) (hr : ∀ b ∈ zs, 0 ≤ b ∧ b ≤ 31) :
    Calls Try.prog 75 #[.slice a zs.length cap] w fun e w' => e = .returned (.int .i64 (orL zs 0)) ∧ w = w' := by
  have HR := hide hr
  clear hr
  go_enter Try.func75, Try.ntmps75
  go_wp2
  go_loop [3, 8] (fun o i => ∃ k : Nat, k ≤ zs.length ∧ i = .int .i64 k ∧ o = .int .i64 (orL (zs.take k) 0)) (fun _ i => zs.length - (intOf i).toNat)
  case atStart => exact ⟨0, Nat.zero_le _, rfl, rfl⟩
  case round =>
    obtain ⟨k, hk, rfl, rfl⟩ := hrel
    have hal := orL_lt (zs.take k) (fun b hb => HR.out b (List.mem_of_mem_take hb)) 0 (by omega)
    by_cases hlt : k < zs.length
    · obtain ⟨b, off, rfl, hbl, hc⟩ := hi (by omega)
      have hck := hc k hlt
      have hrk := HR.out _ (mem_of_at hlt)
      rw [getD_lt hlt] at hck
      have HAN := hide (orL_take (x := 0) hlt)
      obtain ⟨y, hy⟩ := Int.eq_ofNat_of_zero_le hrk.1
      rw [hy] at hck HAN
      rw [Int.toNat_natCast] at HAN
      obtain ⟨u, hu⟩ : ∃ u, u = orL (zs.take k) 0 := ⟨_, rfl⟩
      have hand := or_big u y (by omega) (by omega)
      rw [← hu] at hal HAN ⊢
      obtain ⟨v, hv⟩ : ∃ v, v = u ||| y := ⟨_, rfl⟩
      rw [← hv] at hand HAN
      clear hc hi hrk hy hu hv
      go_wp2
      go_round
      case rel => exact ⟨k + 1, by omega, by go_num, by rw [HAN.out]⟩
      case measure => simp only [intOf]; omega
    · obtain rfl : k = zs.length := by omega
      rw [List.take_length]
      go_wp2
      go_ret
      exact ⟨rfl, rfl⟩
set_option maxHeartbeats 2000000 in
theorem isDue_any (m : Nat) (a : Option Addr) (cap : Nat) (zs : List Int) (l n k : Nat) (w : World) (hi : Ints w a zs) (hl6 : zs.length ≤ 6) (hr : ∀ b ∈ zs, 0 ≤ b ∧ b ≤ ((2 ^ m : Nat) : Int) - 1) (hm5 : m ≤ 5) (hl1 : 1 ≤ l) (hl5 : l ≤ 6) (hn1 : 1 ≤ n) (hn6 : n ≤ 6) (hk5 : k ≤ 6) :
    Calls Try.prog 65 #[.slice a zs.length cap, .int .i64 l, .int .i64 n, .int .i64 k] w fun e w' => e = .returned (.bool (dueB zs m n k l)) ∧ w = w' := by
  obtain ⟨A1, hA1⟩ : ∃ A, A = zs.length * k := ⟨_, rfl⟩
  obtain ⟨A2, hA2⟩ : ∃ A, A = l * n := ⟨_, rfl⟩
  have hb1 : A1 ≤ 36 := by rw [hA1]; exact mul30 hl6 hk5
  have hb2 : A2 ≤ 36 := by rw [hA2]; exact mul30 hl5 hn6
  have he1 : (zs.length : Int) * (k : Int) = (A1 : Int) := by rw [hA1, Int.natCast_mul]
  have he2 : (l : Int) * (n : Int) = (A2 : Int) := by rw [hA2, Int.natCast_mul]
  have h2m : 2 ^ m ≤ 2 ^ 5 := Nat.pow_le_pow_right (by omega) hm5
  by_cases hc1 : A1 < A2
  · have HF := hide (due_no1 (ms := zs) (m := m) (n := n) (k := k) (l := l) (by rw [← hA1, ← hA2]; exact hc1))
    clear hA1 hA2
    go_enter Try.func65, Try.ntmps65
    go_wp2
    go_ret
    exact ⟨ret_bool HF.out.symm, rfl⟩
  · have hpos : 0 < zs.length := by
      have h3 : 1 * 1 ≤ l * n := Nat.mul_le_mul hl1 hn1
      rcases Nat.eq_zero_or_pos zs.length with h | h
      · rw [h, Nat.zero_mul] at hA1; omega
      · exact h
    obtain ⟨b, off, rfl, hbl, hc⟩ := hi hpos
    have hc0 := hc 0 hpos
    rw [getD_lt hpos, Nat.add_zero] at hc0
    have hr0 := hr _ (mem_of_at hpos)
    obtain ⟨z0, hz0⟩ := Int.eq_ofNat_of_zero_le hr0.1
    have hz31 : z0 ≤ 31 := by omega
    have HFULL : Hid (andL zs (2 ^ m - 1) = andL zs z0) := by
      unfold Hid
      cases zs with
      | nil => simp at hpos
      | cons c cs =>
        have e : c = (z0 : Int) := hz0
        rw [andL_cons c cs m hr0, e, Int.toNat_natCast]
    have HD : Hid (dueB zs m n k l = decide (l ≤ pc (andL zs z0))) := by
      unfold Hid dueB
      rw [← hA1, ← hA2, HFULL.out]
      by_cases h : l ≤ pc (andL zs z0)
      · rw [decide_eq_true h, decide_eq_true ⟨by omega, h⟩]
      · rw [decide_eq_false h, decide_eq_false (fun hh => h hh.2)]
    rw [hz0] at hc0
    have HC := hide hc
    have HR := hide hr
    clear hA1 hA2 hr hr0 hz0 hc
    go_enter Try.func65, Try.ntmps65
    go_wp2
    go_loop [9, 25] (fun o i => ∃ j : Nat, j ≤ zs.length ∧ i = .int .i64 j ∧ o = .int .i64 (andL (zs.take j) z0)) (fun _ i => zs.length - (intOf i).toNat)
    case atStart => exact ⟨0, Nat.zero_le _, rfl, rfl⟩
    case round =>
      obtain ⟨j, hj, rfl, rfl⟩ := hrel
      have hal := andL_le (zs.take j) z0
      by_cases hlt : j < zs.length
      · have hck := HC.out j hlt
        have hrk := HR.out _ (mem_of_at hlt)
        rw [getD_lt hlt] at hck
        have HAN := hide (andL_take (x := z0) hlt)
        obtain ⟨y, hy⟩ := Int.eq_ofNat_of_zero_le hrk.1
        have hy31 : y ≤ 31 := by omega
        rw [hy] at hck HAN
        rw [Int.toNat_natCast] at HAN
        obtain ⟨u, hu⟩ : ∃ u, u = andL (zs.take j) z0 := ⟨_, rfl⟩
        have hand := and_big u y (by omega) (by omega)
        rw [← hu] at hal HAN ⊢
        obtain ⟨v, hv⟩ : ∃ v, v = u &&& y := ⟨_, rfl⟩
        rw [← hv] at hand HAN
        clear hrk hy hu hv
        go_wp2
        go_round
        case rel => exact ⟨j + 1, by omega, by go_num, by rw [HAN.out]⟩
        case measure => simp only [intOf]; omega
      · obtain rfl : j = zs.length := by omega
        rw [List.take_length] at hal ⊢
        go_wp2_with (go_at_call 63; refine (countOfNames_any _ _ (by omega)).mono ?_; rintro e w' ⟨rfl, rfl⟩)
        go_ret
        exact ⟨ret_bool (by rw [HD.out]), rfl⟩
theorem claimNamed_any (s : ByteArray) (w : World) : Calls Try.prog 40 #[.string s] w fun e w' => e = .returned (.int .i64 (claimN s : Nat)) ∧ w = w' := by
  rcases claim_cases s with ⟨hq, h0⟩ | ⟨hq, h0, h1⟩ | ⟨hq, h0, h1, h2⟩ | ⟨hq, h0, h1, h2⟩
  all_goals
    have HQ := hide hq
    clear hq
    go_enter Try.func40, Try.ntmps40
    go_wp2
    go_ret
    exact ⟨ret_int (by rw [HQ.out]; rfl), rfl⟩
/-- at least l names -/
def geB (l : Nat) (z : Int) : Bool := decide (l ≤ pc z.toNat)
theorem wrongClo_any (l y : Nat) (g : Nat) (w : World) (hy : y < 32) (bx : Box1 w g (.int .i64 (l : Int))) :
    Calls Try.prog 76 #[.int .i64 y, .pointer (some ⟨g, 0, none⟩)] w fun e w' => e = .returned (.bool (geB l y)) ∧ Below w.heap.size w w' := by
  have ⟨_, c0⟩ := bx
  have hp6 := pc_le y
  go_enter Try.func76, Try.ntmps76
  go_wp2
  go_quiet ((go_at_call 63; exact quiet_left (countOfNames_any _ _ hy)))
  go_wp2
  go_ret
  exact ⟨ret_bool (by unfold geB; rw [Int.toNat_natCast]), belN _ _⟩
/-- What slices.IndexFunc leaves, with a test p. -/
def IdxPostWro (p : Int → Bool) (zs : List Int) (w : World) (e : Ending) (w' : World) : Prop :=
  ∃ r : Int, ((zs.any p = true ∧ 0 ≤ r) ∨ (zs.any p = false ∧ r = -1)) ∧ r ≤ 1048576 ∧ e = .returned (.int .i64 r) ∧ Below w.heap.size w w'

set_option maxHeartbeats 1000000 in
theorem indexFuncWro_any (p : Int → Bool) (a : Option Addr) (cap : Nat) (g : Nat) (zs : List Int) (w : World) (hi : Ints w a zs) (hn : zs.length ≤ 1048576)
    (hf : ∀ (x : Int) (w' : World), x ∈ zs → Below w.heap.size w w' → Calls Try.prog 76 #[.int .i64 x, .pointer (some ⟨g, 0, none⟩)] w' fun e w'' => e = .returned (.bool (p x)) ∧ Below w'.heap.size w' w'') :
    Calls Try.prog 68 #[.slice a zs.length cap, .func (.func 76) #[] #[.pointer (some ⟨g, 0, none⟩)]] w (IdxPostWro p zs w) := by
  have HF := hide hf
  clear hf
  go_enter Try.func68, Try.ntmps68
  go_wp2_with fail
  go_loopw [8] (fun i wr => ∃ k : Nat, k ≤ zs.length ∧ i = .int .i64 k ∧ (∀ j, j < k → p (zs.getD j 0) = false) ∧ Below w.heap.size w wr) (fun i _ => zs.length - (intOf i).toNat)
  case atStart => exact ⟨0, Nat.zero_le _, rfl, fun j hj => by omega, Below.refl _ _⟩
  case round =>
    obtain ⟨k, hk, rfl, hall, hb⟩ := hrel
    have HA := hide hall
    clear hall
    by_cases hlt : k < zs.length
    · obtain ⟨bb, off, rfl, hbl, hc⟩ := (hi.below hb) (by omega)
      have hck := hc k hlt
      rw [getD_lt hlt] at hck
      clear hc hi
      by_cases he : p zs[k] = true
      · have HF2 := hide (any_true hlt he)
        have HE := hide he
        clear he
        go_wp2_with fail
        refine (HF.out _ _ (mem_of_at hlt) hb).mono ?_
        rintro e w1 ⟨rfl, h1⟩
        have he := HE.out
        go_wp2
        go_ret
        exact ⟨k, .inl ⟨HF2.out, by omega⟩, by omega, rfl, bnext hb h1⟩
      · have he : p zs[k] = false := by simpa using he
        have HE := hide he
        clear he
        go_wp2_with fail
        refine (HF.out _ _ (mem_of_at hlt) hb).mono ?_
        rintro e w1 ⟨rfl, h1⟩
        have he := HE.out
        go_wp2
        go_roundw
        case rel => exact ⟨k + 1, by omega, by go_num, fun j hj => by
          rcases Nat.lt_or_ge j k with h | h
          · exact HA.out j h
          · obtain rfl : j = k := by omega
            rw [getD_lt hlt]
            exact HE.out, bnext hb h1⟩
        case measure => simp only [intOf]; omega
    · obtain rfl : k = zs.length := by omega
      go_wp2
      go_ret
      exact ⟨-1, .inr ⟨any_false HA.out, rfl⟩, by omega, rfl, hb⟩

set_option maxHeartbeats 1000000 in
theorem containsFuncWro_any (p : Int → Bool) (a : Option Addr) (cap : Nat) (g : Nat) (zs : List Int) (w : World) (hi : Ints w a zs) (hn : zs.length ≤ 1048576)
    (hf : ∀ (x : Int) (w' : World), x ∈ zs → Below w.heap.size w w' → Calls Try.prog 76 #[.int .i64 x, .pointer (some ⟨g, 0, none⟩)] w' fun e w'' => e = .returned (.bool (p x)) ∧ Below w'.heap.size w' w'') :
    Calls Try.prog 50 #[.slice a zs.length cap, .func (.func 76) #[] #[.pointer (some ⟨g, 0, none⟩)]] w fun e w' => e = .returned (.bool (zs.any p)) ∧ Below w.heap.size w w' := by
  have HF := hide hf
  clear hf
  by_cases hm : zs.any p = true
  · have HM := hide hm
    clear hm
    go_enter Try.func50, Try.ntmps50
    go_wp2_with fail
    refine (indexFuncWro_any p _ _ _ _ _ hi hn HF.out).mono ?_
    rintro e w' ⟨r, hr, hr2, rfl, hb⟩
    have h0 : 0 ≤ r := by
      rcases hr with ⟨_, h⟩ | ⟨h, _⟩
      · exact h
      · rw [HM.out] at h; cases h
    clear hr
    go_wp2
    go_ret
    exact ⟨ret_bool HM.out.symm, hb⟩
  · have hm : zs.any p = false := by simpa using hm
    have HM := hide hm
    clear hm
    go_enter Try.func50, Try.ntmps50
    go_wp2_with fail
    refine (indexFuncWro_any p _ _ _ _ _ hi hn HF.out).mono ?_
    rintro e w' ⟨r, hr, hr2, rfl, hb⟩
    have h0 : r < 0 := by
      rcases hr with ⟨h, _⟩ | ⟨_, h⟩
      · rw [HM.out] at h; cases h
      · omega
    clear hr
    go_wp2
    go_ret
    exact ⟨ret_bool (by rw [HM.out]; simp; omega), hb⟩

theorem band_range {x : Nat} (hx : x < 32) (ms : List Int) : ∀ z ∈ ms.map (bandI x), 0 ≤ z ∧ z ≤ 31 := by
  intro z hz
  obtain ⟨b, _, rfl⟩ := List.mem_map.1 hz
  have := and_lt b x hx
  unfold bandI
  omega
theorem wrong_one {ms : List Int} {l x : Nat} (hx : x < 32) : wrongB 1 ms l x = decide (l = 1 ∧ orL (ms.map (bandI x)) 0 = 0) := by
  unfold wrongB
  rw [if_pos rfl]
  have h : mostL ms x 0 = 0 ↔ orL (ms.map (bandI x)) 0 = 0 := by
    have h1 := mostL_lt ms x 1 0
    have h2 := orL_zero (ms.map (bandI x)) 0
    rw [h2]
    constructor
    · intro h
      have h3 := (h1.1 (by omega)).2
      refine ⟨rfl, fun z hz => ?_⟩
      obtain ⟨b, hb, rfl⟩ := List.mem_map.1 hz
      have h4 := h3 b hb
      unfold bandI
      rw [Int.toNat_natCast]
      exact (pc_zero_iff _ (and_lt b x hx)).1 (by omega)
    · intro h
      have h4 := h1.2 ⟨by omega, fun b hb => by
        have h5 := h.2 _ (List.mem_map.2 ⟨b, hb, rfl⟩)
        unfold bandI at h5
        rw [Int.toNat_natCast] at h5
        rw [h5]; decide⟩
      omega
  by_cases hl : l = 1 ∧ mostL ms x 0 = 0
  · rw [decide_eq_true hl, decide_eq_true ⟨hl.1, h.1 hl.2⟩]
  · rw [decide_eq_false hl, decide_eq_false (fun hh => hl ⟨hh.1, h.2 hh.2⟩)]
theorem wrong_two {ms : List Int} {l x : Nat} : wrongB 2 ms l x = decide (pc (orL (ms.map (bandI x)) 0) < l) := by
  unfold wrongB
  rw [if_neg (by decide), if_pos rfl, orL_band0]
theorem wrong_three {ms : List Int} {l x : Nat} (hl : 1 ≤ l) : wrongB 3 ms l x = !((ms.map (bandI x)).any (geB l)) := by
  unfold wrongB
  rw [if_neg (by decide), if_neg (by decide)]
  have h1 := mostL_lt ms x l 0
  by_cases h : mostL ms x 0 < l
  · rw [decide_eq_true h]
    symm
    rw [Bool.not_eq_true', List.any_eq_false]
    intro z hz
    obtain ⟨b, hb, rfl⟩ := List.mem_map.1 hz
    have := (h1.1 h).2 b hb
    unfold geB bandI
    rw [Int.toNat_natCast]
    simp
    omega
  · rw [decide_eq_false h]
    symm
    rw [Bool.not_eq_false', List.any_eq_true]
    apply Classical.byContradiction
    intro hno
    apply h
    refine h1.2 ⟨by omega, fun b hb => ?_⟩
    apply Classical.byContradiction
    intro hb2
    exact hno ⟨bandI x b, List.mem_map.2 ⟨b, hb, rfl⟩, by unfold geB bandI; rw [Int.toNat_natCast]; exact decide_eq_true (by omega)⟩

set_option maxHeartbeats 2000000 in
theorem wrongs_any (q : Nat) (hq : 1 ≤ q ∧ q ≤ 3) (a : Option Addr) (cap : Nat) (ms : List Int) (l x : Nat) (w : World) (hi : Ints w a ms) (hl6 : ms.length ≤ 6) (hr : ∀ b ∈ ms, 0 ≤ b ∧ b ≤ 31) (hl1 : 1 ≤ l) (hx : x < 32) :
    Calls Try.prog 66 #[.int .i64 q, .slice a ms.length cap, .int .i64 l, .int .i64 x] w fun e w' => e = .returned (.bool (wrongB q ms l x)) ∧ Below w.heap.size w w' := by
  have HR := hide hr
  have HB := hide (band_range hx ms)
  have hml : (ms.map (bandI x)).length = ms.length := List.length_map _
  clear hr
  have bx0 := Box1.new w (.int .i64 (l : Int)) 3
  have B1 := bel1 w (.cells #[.int .i64 (l : Int)] 3)
  have hi1 := hi.below B1
  have HBX := hide bx0
  clear bx0 hi
  rcases (show q = 1 ∨ q = 2 ∨ q = 3 from by omega) with rfl | rfl | rfl
  · have HW := hide (wrong_one (ms := ms) (l := l) hx)
    by_cases hl : l = 1
    · have hle : ((l : Int) == 1) = true := by rw [hl]; rfl
      have HL := hide hl
      clear hl
      go_enter Try.func66, Try.ntmps66
      go_wp2_with fail
      refine (within_any _ _ _ _ _ hi1 (by omega) HR.out hx).mono ?_
      rintro e w2 ⟨rfl, own, hb2⟩
      simp only [World.size_alloc] at own
      have iz := own.ints
      have ⟨_, cx⟩ := HBX.out.below hb2
      obtain ⟨zs, hzs⟩ : ∃ zs, zs = ms.map (bandI x) := ⟨_, rfl⟩
      rw [← hzs] at iz HB HW hml
      have HZS := hide hzs
      rw [← hml]
      have hzl : zs.length ≤ 6 := by omega
      have HML := hide hml
      clear own hzs hml
      go_wp2_with (go_at_call 75; (with_reducible refine (unionOf_any _ _ _ _ iz hzl HB.out).mono ?_); rintro e w' ⟨rfl, rfl⟩)
      go_ret
      exact ⟨ret_bool (by
        rw [HW.out]
        by_cases h : orL zs 0 = 0
        · rw [decide_eq_true ⟨HL.out, h⟩, h]; rfl
        · rw [decide_eq_false (fun hh => h hh.2)]; simp; omega), bnext B1 hb2⟩
    · have hle : ((l : Int) == 1) = false := by simp; omega
      have HL := hide hl
      clear hl
      go_enter Try.func66, Try.ntmps66
      go_wp2_with fail
      refine (within_any _ _ _ _ _ hi1 (by omega) HR.out hx).mono ?_
      rintro e w2 ⟨rfl, own, hb2⟩
      simp only [World.size_alloc] at own
      have ⟨_, cx⟩ := HBX.out.below hb2
      go_wp2
      go_ret
      exact ⟨ret_bool (by rw [HW.out, decide_eq_false (fun h => HL.out h.1)]), bnext B1 hb2⟩
  · have HW := hide (wrong_two (ms := ms) (l := l) (x := x))
    have horl := orL_lt (ms.map (bandI x)) HB.out 0 (by omega)
    go_enter Try.func66, Try.ntmps66
    go_wp2_with fail
    refine (within_any _ _ _ _ _ hi1 (by omega) HR.out hx).mono ?_
    rintro e w2 ⟨rfl, own, hb2⟩
    simp only [World.size_alloc] at own
    have iz := own.ints
    have ⟨_, cx⟩ := HBX.out.below hb2
    obtain ⟨zs, hzs⟩ : ∃ zs, zs = ms.map (bandI x) := ⟨_, rfl⟩
    rw [← hzs] at iz HB HW hml horl
    have HZS := hide hzs
    rw [← hml]
    have hzl : zs.length ≤ 6 := by omega
    have hpo := pc_le (orL zs 0)
    have HML := hide hml
    clear own hzs hml
    go_wp2
    go_quiet ((first | (go_at_call 75; exact quiet_left (unionOf_any _ _ _ _ (iz.below (belN _ _)) hzl HB.out)) | (go_at_call 63; exact quiet_left (countOfNames_any _ _ horl))))
    go_wp2
    go_ret
    exact ⟨ret_bool (by rw [HW.out]), bnext (bnext B1 hb2) (belN _ _)⟩
  · have HW := hide (wrong_three (ms := ms) (l := l) (x := x) hl1)
    go_enter Try.func66, Try.ntmps66
    go_wp2_with fail
    refine (within_any _ _ _ _ _ hi1 (by omega) HR.out hx).mono ?_
    rintro e w2 ⟨rfl, own, hb2⟩
    simp only [World.size_alloc] at own
    have iz := own.ints
    obtain ⟨zs, hzs⟩ : ∃ zs, zs = ms.map (bandI x) := ⟨_, rfl⟩
    rw [← hzs] at iz HB HW hml
    have HZS := hide hzs
    rw [← hml]
    have hzl : zs.length ≤ 6 := by omega
    have HML := hide hml
    clear own hzs hml
    go_wp2_with fail
    refine (containsFuncWro_any (geB l) _ _ _ _ _ iz (by omega) (fun z w' hz hb' => by
      obtain ⟨y, rfl⟩ := Int.eq_ofNat_of_zero_le (HB.out z hz).1
      exact wrongClo_any l y _ _ (by have := (HB.out _ hz).2; omega) ((HBX.out.below hb2).below hb'))).mono ?_
    rintro e w3 ⟨rfl, hb3⟩
    go_wp2
    go_ret
    exact ⟨ret_bool HW.out.symm, bnext (bnext B1 hb2) hb3⟩
end Go.Proofs.Ythkikjidkehheaa

/- WroJ: WrongedBy and IsJust of the program. -/
namespace Go.Proofs.Ythkikjidkehheaa
open Go.RowKit Go.Joins

theorem wrap_pow_nat (n : Nat) (h : n ≤ 6) : wrap64 (2 ^ n) = ((2 ^ n : Nat) : Int) := by
  rw [Int.natCast_pow]
  exact IntWalk.wrap64_in _ (by
    rcases (show n = 0 ∨ n = 1 ∨ n = 2 ∨ n = 3 ∨ n = 4 ∨ n = 5 ∨ n = 6 from by omega) with rfl | rfl | rfl | rfl | rfl | rfl | rfl <;> decide)
set_option maxHeartbeats 4000000 in
set_option maxRecDepth 100000 in
theorem firstWronged_any (q : Nat) (hq : 1 ≤ q ∧ q ≤ 3) (m : Nat) (a : Option Addr) (cap : Nat) (bs : List Int) (k x : Nat) (w : World) (hi : Ints w a bs) (hl6 : bs.length ≤ 6) (hl1 : 1 ≤ bs.length)
    (hr : ∀ b ∈ bs, 0 ≤ b ∧ b ≤ ((2 ^ m : Nat) : Int) - 1) (hm5 : m ≤ 5) (hk5 : k ≤ 5) (hx : x < 32) :
    Calls Try.prog 42 #[.int .i64 q, .slice a bs.length cap, .int .i64 k, .int .i64 x] w fun e w' => WroE (scan (badB q bs m k x) (2 ^ bs.length) k 1) e ∧ Below w.heap.size w w' := by
  have HQ := hide hq
  have h2m : 2 ^ m ≤ 2 ^ 5 := Nat.pow_le_pow_right (by omega) hm5
  have HR := hide hr
  have HR2 : Hid (∀ b ∈ bs, 0 ≤ b ∧ b ≤ 31) := fun b hb => by have := hr b hb; omega
  clear hr hq h2m
  obtain ⟨M, hM⟩ : ∃ M, M = 2 ^ bs.length := ⟨_, rfl⟩
  have hM64 : M ≤ 64 := by rw [hM]; exact pow_le6 _ hl6
  have HWR : Hid (wrap64 (2 ^ bs.length) = (M : Int)) := by unfold Hid; rw [hM]; exact wrap_pow_nat _ hl6
  have HLEN : Hid (∀ g, (memL bs g).length ≤ bs.length) := fun g => memK_len bs g _
  have HMEM : Hid (∀ g, ∀ z ∈ memL bs g, z ∈ bs) := fun g => memK_mem bs g _ (Nat.le_refl _)
  rw [← hM]
  obtain ⟨p, hp⟩ : ∃ p, p = badB q bs m k x := ⟨_, rfl⟩
  have HP := hide hp
  rw [← hp]
  clear hM hp
  go_enter Try.func42, Try.ntmps42
  go_wp2
  go_loopw [10] (fun i wr => ∃ l : Nat, 1 ≤ l ∧ l ≤ k + 1 ∧ i = .int .i64 l ∧ Hid (scan p M k 1 = scan p M (k + 1 - l) l) ∧ Below w.heap.size w wr) (fun i _ => k + 1 - (intOf i).toNat)
  case atStart => exact ⟨1, Nat.le_refl _, by omega, rfl, rfl, Below.refl _ _⟩
  case round =>
    obtain ⟨l, hl1', hlk, rfl, HS, BR⟩ := hrel
    by_cases hlt : l ≤ k
    · go_wp2
      rw [HWR.out]
      obtain ⟨wq0, hwq⟩ : ∃ wq : World, wq = wr := ⟨_, rfl⟩
      subst hwq
      go_loopw [21] (fun i wq => ∃ g : Nat, g ≤ M ∧ i = .int .i64 g ∧ Hid (∀ z, z < g → p l z = false) ∧ Below w.heap.size w wq) (fun i _ => M - (intOf i).toNat)
      case atStart => exact ⟨0, Nat.zero_le _, rfl, fun z hz => by omega, BR⟩
      case round =>
        clear BR
        obtain ⟨g, hg, rfl, HA, BR⟩ := hrel
        by_cases hgM : g < M
        · have HNX := hide (fun (h : p l g = false) z (hz : z < g + 1) => (by
            rcases Nat.lt_or_ge z g with hzy | hzy
            · exact HA.out z hzy
            · obtain rfl : z = g := by omega
              exact h : p l z = false))
          have HB1 : Hid (dueB (memL bs g) m bs.length k l = false → p l g = false) := fun h => by rw [HP.out]; exact badB_due h
          have HB2 : Hid (dueB (memL bs g) m bs.length k l = true → p l g = wrongB q (memL bs g) l x) := fun h => by rw [HP.out]; exact badB_yes h
          have iol := hi.below BR
          obtain ⟨ms, hms⟩ : ∃ ms, ms = memL bs g := ⟨_, rfl⟩
          have hml : ms.length ≤ bs.length := by rw [hms]; exact HLEN.out g
          have HM1 : Hid (∀ z ∈ ms, 0 ≤ z ∧ z ≤ ((2 ^ m : Nat) : Int) - 1) := fun z hz => HR.out z (HMEM.out g z (by rw [← hms]; exact hz))
          have HM2 : Hid (∀ z ∈ ms, 0 ≤ z ∧ z ≤ 31) := fun z hz => HR2.out z (HMEM.out g z (by rw [← hms]; exact hz))
          rw [← hms] at HB1 HB2
          have HMS := hide hms
          clear hms
          by_cases hd : dueB ms m bs.length k l = true
          · have HD := hide hd
            by_cases hw : wrongB q ms l x = true
            · have HHIT := hide (scan_hit (p := p) (f := k - l) hgM ((HB2.out hd).trans hw) HA.out)
              have HM : Hid (k - l + 1 = k + 1 - l) := by unfold Hid; omega
              go_wp2_with fail
              refine (membersOf_any _ _ _ g _ iol hl6 (by omega)).mono ?_
              rintro e w2 ⟨v, rfl, own, hb2⟩
              rw [← HMS.out] at own
              obtain ⟨av, cv, rfl, iv, _⟩ := own.form
              clear own
              go_wp2_with (go_at_call 65; refine (isDue_any m _ _ ms l bs.length k _ iv (by omega) HM1.out hm5 hl1' (by omega) hl1 hl6 (by omega)).mono ?_; rintro e w' ⟨rfl, rfl⟩)
              refine (wrongs_any q HQ.out _ _ ms l x _ iv (by omega) HM2.out hl1' hx).mono ?_
              rintro e w3 ⟨rfl, hb3⟩
              go_wp2
              go_ret2
              exact ⟨wro_some (by rw [HS.out, ← HM.out]; exact HHIT.out), bnext (bnext BR hb2) hb3⟩
            · have hw : wrongB q ms l x = false := by simpa using hw
              have HNO := hide ((HB2.out hd).trans hw)
              go_wp2_with fail
              refine (membersOf_any _ _ _ g _ iol hl6 (by omega)).mono ?_
              rintro e w2 ⟨v, rfl, own, hb2⟩
              rw [← HMS.out] at own
              obtain ⟨av, cv, rfl, iv, _⟩ := own.form
              clear own
              go_wp2_with (go_at_call 65; refine (isDue_any m _ _ ms l bs.length k _ iv (by omega) HM1.out hm5 hl1' (by omega) hl1 hl6 (by omega)).mono ?_; rintro e w' ⟨rfl, rfl⟩)
              refine (wrongs_any q HQ.out _ _ ms l x _ iv (by omega) HM2.out hl1' hx).mono ?_
              rintro e w3 ⟨rfl, hb3⟩
              go_wp2
              go_roundw
              case rel => exact ⟨g + 1, by omega, by go_num, HNX.out HNO.out, bnext (bnext BR hb2) hb3⟩
              case measure => simp only [intOf]; omega
          · have hd : dueB ms m bs.length k l = false := by simpa using hd
            have HNO := hide (HB1.out hd)
            go_wp2_with fail
            refine (membersOf_any _ _ _ g _ iol hl6 (by omega)).mono ?_
            rintro e w2 ⟨v, rfl, own, hb2⟩
            rw [← HMS.out] at own
            obtain ⟨av, cv, rfl, iv, _⟩ := own.form
            clear own
            go_wp2_with (go_at_call 65; refine (isDue_any m _ _ ms l bs.length k _ iv (by omega) HM1.out hm5 hl1' (by omega) hl1 hl6 (by omega)).mono ?_; rintro e w' ⟨rfl, rfl⟩)
            go_roundw
            case rel => exact ⟨g + 1, by omega, by go_num, HNX.out HNO.out, bnext BR hb2⟩
            case measure => simp only [intOf]; omega
        · obtain rfl : M = g := by omega
          have HMI := hide (scan_miss (f := k - l) HA.out)
          have HM : Hid (k - l + 1 = k + 1 - l) := by unfold Hid; omega
          have HM2 : Hid (k - l = k + 1 - (l + 1)) := by unfold Hid; omega
          go_wp2
          go_roundw
          case rel => exact ⟨l + 1, by omega, by omega, by go_num, show _ = _ by rw [HS.out, ← HM.out, HMI.out, HM2.out], BR⟩
          case measure => simp only [intOf]; omega
    · obtain rfl : l = k + 1 := by omega
      go_wp2
      go_ret2
      exact ⟨wro_none (by rw [HS.out, Nat.sub_self]; rfl), BR⟩
set_option maxHeartbeats 4000000 in
theorem implIsJust_any (s : ByteArray) (c : Int) (a : Option Addr) (cap : Nat) (bs : List Int) (k x : Int) (w : World) (hi : Ints w a bs) (hn : bs.length ≤ 1048576) :
    Calls Try.prog 21 #[.string s, .int .i64 c, .slice a bs.length cap, .int .i64 k, .int .i64 x] w fun e w' => e = .returned (.bool (justB s c bs k x)) ∧ Below w.heap.size w w' := by
  by_cases hs : claimN s = 0
  · have HF := hide (just_claim (c := c) (bs := bs) (k := k) (x := x) hs)
    have HS := hide hs
    clear hs
    go_enter Try.func21, Try.ntmps21
    go_wp2_with (go_at_call 40; refine (claimNamed_any _ _).mono ?_; rintro e w' ⟨rfl, rfl⟩; rw [HS.out])
    go_ret
    exact ⟨ret_bool HF.out.symm, Below.refl _ _⟩
  · have HC : Hid (1 ≤ claimN s ∧ claimN s ≤ 3) := by
      unfold Hid
      rcases claim_cases s with ⟨h, _⟩ | ⟨h, _⟩ | ⟨h, _⟩ | ⟨h, _⟩ <;> omega
    have hcz : ((claimN s : Int) == 0) = false := by simpa using hs
    by_cases hv : seatedB c bs k x = true
    · have HJ := hide (just_eq hs hv)
      have HW := hide (wroA_yes hs hv)
      have hse := seated_of hv
      have hS := seats_of hse.1
      have hl6 : bs.length ≤ 6 := by have := hS.1.2.1; omega
      have hl1 : 1 ≤ bs.length := by have := hS.1.2.1; omega
      have p5 := pw_le5 c hS.1.1.2
      have hm := bal_mem hS.1
      obtain ⟨y, rfl⟩ := Int.eq_ofNat_of_zero_le hse.2.1.1
      have hy32 : y < 32 := by have := hse.2.1.2; omega
      obtain ⟨m, rfl⟩ := Int.eq_ofNat_of_zero_le (show 0 ≤ c from by have := hS.1.1; omega)
      obtain ⟨K, rfl⟩ := Int.eq_ofNat_of_zero_le (show 0 ≤ k from by have := hS.2; omega)
      have hm5 : m ≤ 5 := by have := hS.1.1; omega
      have hK5 : K ≤ 5 := by have := hS.2; omega
      rw [Int.toNat_natCast, Int.toNat_natCast, Int.toNat_natCast] at HW
      rw [pw_nat] at hm
      have HR := hide hm
      have HV : Hid (wroG s m bs K y = ((scR (scan (badB (claimN s) bs m K y) (2 ^ bs.length) K 1) : Nat) : Int) ∧ wroL s m bs K y = ((scL (scan (badB (claimN s) bs m K y) (2 ^ bs.length) K 1) : Nat) : Int)) := by
        unfold Hid wroG wroL
        rw [HW.out]
        exact ⟨rfl, rfl⟩
      clear hs hse hS p5 hm
      go_enter Try.func21, Try.ntmps21
      go_wp2_with (go_at_call 40; refine (claimNamed_any _ _).mono ?_; rintro e w' ⟨rfl, rfl⟩)
      refine (mayBeSeated_any _ _ _ _ _ _ _ hi hn).mono ?_
      rintro e w1 ⟨rfl, hb1⟩
      go_wp2_with fail
      refine (firstWronged_any (claimN s) HC.out m _ _ _ K y _ (hi.below hb1) hl6 hl1 HR.out hm5 hK5 hy32).mono ?_
      rintro e w2 ⟨he, hb2⟩
      have he' : e = .returned (.tuple #[.int .i64 (scR (scan (badB (claimN s) bs m K y) (2 ^ bs.length) K 1) : Nat), .int .i64 (scL (scan (badB (claimN s) bs m K y) (2 ^ bs.length) K 1) : Nat)]) := he
      subst he'
      clear he
      go_wp2
      go_ret
      exact ⟨ret_bool (by rw [HJ.out, HV.out.1]), bnext hb1 hb2⟩
    · have hv : seatedB c bs k x = false := by simpa using hv
      have HF := hide (just_seat (s := s) hv)
      clear hs
      go_enter Try.func21, Try.ntmps21
      go_wp2_with (go_at_call 40; refine (claimNamed_any _ _).mono ?_; rintro e w' ⟨rfl, rfl⟩)
      refine (mayBeSeated_any _ _ _ _ _ _ _ hi hn).mono ?_
      rintro e w1 ⟨rfl, hb1⟩
      go_wp2
      go_ret
      exact ⟨ret_bool HF.out.symm, hb1⟩
end Go.Proofs.Ythkikjidkehheaa

/- PJust: The promise of IsJust: its draw and its law's walk. -/
namespace Go.Proofs.Ythkikjidkehheaa
open Go.RowKit Go.Joins

def oneS : ByteArray := ⟨#[111, 110, 101]⟩
def togS : ByteArray := ⟨#[116, 111, 103, 101, 116, 104, 101, 114]⟩
def somS : ByteArray := ⟨#[115, 111, 109, 101, 111, 110, 101]⟩
theorem claim_one : claimN oneS = 1 := by decide +kernel
theorem claim_tog : claimN togS = 2 := by decide +kernel
theorem claim_som : claimN somS = 3 := by decide +kernel
theorem bad_mono {p q : Nat} {bs : List Int} {m k w l g : Nat} (h : wrongB p (memL bs g) l w = true → wrongB q (memL bs g) l w = true) (hb : badB q bs m k w l g = false) : badB p bs m k w l g = false := by
  unfold badB at hb ⊢
  cases hd : dueB (memL bs g) m bs.length k l
  · rfl
  · rw [hd, Bool.true_and] at hb
    rw [Bool.true_and]
    cases hw : wrongB p (memL bs g) l w
    · rfl
    · rw [h hw] at hb; cases hb
theorem seated_lt {c : Int} {bs : List Int} {k x : Int} (h : seatedB c bs k x = true) : x.toNat < 32 := by
  obtain ⟨h1, h2, _⟩ := seated_of h
  have h3 := pw_le5 c (seats_of h1).1.1.2
  omega
theorem just_som_tog {c : Int} {bs : List Int} {k x : Int} (h : justB somS c bs k x = true) : justB togS c bs k x = true := by
  have hs : seatedB c bs k x = true := by
    unfold justB at h
    cases hs : seatedB c bs k x
    · rw [hs] at h; simp at h
    · rfl
  rw [just_iff (by rw [claim_som]; decide) hs, claim_som] at h
  rw [just_iff (by rw [claim_tog]; decide) hs, claim_tog]
  exact fun l h1 h2 g hg => bad_mono (two_three (seated_lt hs)) (h l h1 h2 g hg)
theorem just_tog_one {c : Int} {bs : List Int} {k x : Int} (h : justB togS c bs k x = true) : justB oneS c bs k x = true := by
  have hs : seatedB c bs k x = true := by
    unfold justB at h
    cases hs : seatedB c bs k x
    · rw [hs] at h; simp at h
    · rfl
  rw [just_iff (by rw [claim_tog]; decide) hs, claim_tog] at h
  rw [just_iff (by rw [claim_one]; decide) hs, claim_one]
  exact fun l h1 h2 g hg => bad_mono (one_two (seated_lt hs)) (h l h1 h2 g hg)
theorem just_no {s : ByteArray} {c : Int} {bs : List Int} {k x : Int} (h : claimN s = 1) : justB s c bs k x = justB oneS c bs k x := by
  unfold justB wroA
  rw [h, claim_one]
theorem just_last {s : ByteArray} {c : Int} {bs : List Int} {k x : Int} (h : s.toList = [111, 110, 101]) : justB s c bs k x = justB oneS c bs k x := by
  refine just_no ?_
  unfold claimN
  rw [if_pos (by rw [h]; decide)]
theorem just_mid {a b : Bool} (h : a = true → b = true) : (!a || b) = true := by
  cases a
  · rfl
  · rw [h rfl]; rfl
end Go.Proofs.Ythkikjidkehheaa

/- PLoad: The promise of LoadedOf: loads are as many as names, and its committee is just by together. -/
namespace Go.Proofs.Ythkikjidkehheaa
open Go.RowKit Go.Joins

theorem nz_names {ns : List Nat} (h : ∀ x ∈ ns, x < 5) : NamesOk (nz ns) := fun j hj => by
  rw [nz_len] at hj
  rw [nz_getD]
  have := h _ (List.getElem_mem hj)
  rw [List.getD_eq_getElem?_getD, List.getElem?_eq_getElem hj]
  simp only [Option.getD_some]
  omega
theorem or_new : ∀ w : Fin 32, ∀ x : Fin 5, bitN w.val x.val = 0 → w.val ||| 2 ^ x.val = w.val + 2 ^ x.val := by decide +kernel
theorem maskK_app (zs : List Int) (x : Int) : ∀ k, k ≤ zs.length → maskK (zs ++ [x]) k = maskK zs k
  | 0, _ => rfl
  | k + 1, h => by
    rw [maskK, maskK, maskK_app zs x k (by omega), List.getD_eq_getElem?_getD, List.getElem?_append_left (by omega), ← List.getD_eq_getElem?_getD]
theorem maskK_nz : ∀ ns : List Nat, ns.Nodup → (∀ x ∈ ns, x < 5) → maskK (nz ns) (nz ns).length = maskN ns := by
  intro ns
  induction h : ns.length generalizing ns with
  | zero =>
    intro _ _
    obtain rfl := List.eq_nil_of_length_eq_zero h
    rfl
  | succ n ih =>
    intro hd hlt
    obtain ⟨ms, x, rfl⟩ : ∃ ms x, ns = ms ++ [x] := ⟨ns.dropLast, ns.getLast (by intro e; subst e; simp at h), (List.dropLast_concat_getLast _).symm⟩
    rw [List.nodup_append] at hd
    have hx : ¬ x ∈ ms := fun hm => hd.2.2 x hm x (by simp) rfl
    have hx5 := hlt x (by simp)
    have hlt' : ∀ y ∈ ms, y < 5 := fun y hy => hlt y (by simp [hy])
    obtain ⟨h1, h2⟩ := mask_ok ms hd.1 hlt'
    rw [maskN_app, nz_app, List.length_append]
    show maskK (nz ms ++ [(x : Int)]) (nz ms).length ||| 2 ^ ((nz ms ++ [(x : Int)]).getD (nz ms).length 0).toNat = _
    rw [maskK_app _ _ _ (Nat.le_refl _), ih ms (by simpa using h) hd.1 hlt']
    rw [show ((nz ms ++ [(x : Int)]).getD (nz ms).length 0) = (x : Int) from by simp [List.getD_eq_getElem?_getD], Int.toNat_natCast]
    exact or_new ⟨maskN ms, h1⟩ ⟨x, hx5⟩ (by rw [h2 x hx5, if_neg hx])
theorem pc_put : ∀ w : Fin 32, ∀ x : Fin 5, bitN w.val x.val = 0 → pc (w.val + 2 ^ x.val) = pc w.val + 1 := by decide +kernel
theorem pc_mask : ∀ ns : List Nat, ns.Nodup → (∀ x ∈ ns, x < 5) → pc (maskN ns) = ns.length := by
  intro ns
  induction h : ns.length generalizing ns with
  | zero =>
    intro _ _
    obtain rfl := List.eq_nil_of_length_eq_zero h
    rfl
  | succ n ih =>
    intro hd hlt
    obtain ⟨ms, x, rfl⟩ : ∃ ms x, ns = ms ++ [x] := ⟨ns.dropLast, ns.getLast (by intro e; subst e; simp at h), (List.dropLast_concat_getLast _).symm⟩
    rw [List.nodup_append] at hd
    have hx : ¬ x ∈ ms := fun hm => hd.2.2 x hm x (by simp) rfl
    have hx5 := hlt x (by simp)
    have hlt' : ∀ y ∈ ms, y < 5 := fun y hy => hlt y (by simp [hy])
    obtain ⟨h1, h2⟩ := mask_ok ms hd.1 hlt'
    have hl : ms.length = n := by simpa using h
    rw [maskN_app, pc_put ⟨maskN ms, h1⟩ ⟨x, hx5⟩ (by rw [h2 x hx5, if_neg hx]), ih ms hl hd.1 hlt']
theorem mask_le : ∀ m : Fin 6, ∀ w : Fin 32, (∀ y : Fin 5, bitN w.val y.val = 1 → y.val < m.val) → w.val < 2 ^ m.val := by decide +kernel
theorem mask_lt {m : Nat} {ns : List Nat} (hm : m ≤ 5) (hd : ns.Nodup) (h : ∀ x ∈ ns, x < m) : maskN ns < 2 ^ m := by
  obtain ⟨h1, h2⟩ := mask_ok ns hd (fun x hx => by have := h x hx; omega)
  refine mask_le ⟨m, by omega⟩ ⟨_, h1⟩ fun y hy => ?_
  simp only at hy ⊢
  rw [h2 _ y.isLt] at hy
  by_cases e : y.val ∈ ns
  · exact h _ e
  · rw [if_neg e] at hy; cases hy
theorem wrong2_iff {ms : List Int} {l w : Nat} : wrongB 2 ms l w = true ↔ pc (orL ms 0 &&& w) < l := by
  unfold wrongB
  rw [if_neg (by decide), if_pos rfl, decide_eq_true_iff]
/-- what the law wants of the names and loads -/
theorem load_facts {c : Int} {bs : List Int} {k : Int} (h : seatsB c bs k = true) : ∃ m K : Nat, c = (m : Int) ∧ k = (K : Int) ∧ m ≤ 5 ∧ 1 ≤ K ∧ K ≤ m ∧ bs.length ≤ 6 ∧ loadA c bs k = runL m bs K ∧ LdOk m bs K (runL m bs K) ∧ maskV (nz (runL m bs K).1) = (maskN (runL m bs K).1 : Nat) ∧ maskN (runL m bs K).1 < 32 ∧ pc (maskN (runL m bs K).1) = K ∧
    totK (nz (runL m bs K).2.1) bs.length = (((runL m bs K).2.2 * ((runL m bs K).1.filter fun x => decide (supN bs x ≠ 0)).length : Nat) : Int) ∧ justB togS c bs k (maskN (runL m bs K).1 : Nat) = true := by
  have hS := seats_of h
  obtain ⟨m, rfl⟩ := Int.eq_ofNat_of_zero_le (show 0 ≤ c from by have := hS.1.1; omega)
  obtain ⟨K, rfl⟩ := Int.eq_ofNat_of_zero_le (show 0 ≤ k from by have := hS.2; omega)
  have hm5 : m ≤ 5 := by have := hS.1.1; omega
  have hKm : K ≤ m := by have := hS.2; omega
  have hK1 : 1 ≤ K := by have := hS.2; omega
  have h6 : bs.length ≤ 6 := by have := hS.1.2.1; omega
  have h1 : 1 ≤ bs.length := by have := hS.1.2.1; omega
  have hr := bal_range hS.1
  have OK := run_ok (c := m) (bs := bs) h6 K hKm
  have hlt5 : ∀ x ∈ (runL m bs K).1, x < 5 := fun x hx => by have := OK.lt x hx; omega
  have hmk : maskV (nz (runL m bs K).1) = (maskN (runL m bs K).1 : Nat) := by rw [maskV_yes (nz_names hlt5), maskK_nz _ OK.nd hlt5]
  have hpc : pc (maskN (runL m bs K).1) = K := by rw [pc_mask _ OK.nd hlt5, OK.ns]
  have hm32 := (mask_ok _ OK.nd hlt5).1
  have hml := mask_lt hm5 OK.nd OK.lt
  refine ⟨m, K, rfl, rfl, hm5, hK1, hKm, h6, by rw [loadA_yes h, Int.toNat_natCast, Int.toNat_natCast], OK, hmk, hm32, hpc, ?_, ?_⟩
  · have INV := ldI_run (m := m) (bs := bs) (U := 0) (g := 0) hm5 h6 (fun i _ hb => by unfold bitN at hb; simp at hb) K hKm
    rw [← INV.i2]
    have key : ∀ n, totK (nz (runL m bs K).2.1) n = ((su (fun i => (runL m bs K).2.1.getD i 0) n : Nat) : Int) := by
      intro n
      induction n with
      | zero => rfl
      | succ n ih => rw [totK, su, ih, nz_getD]; omega
    exact key _
  · have hseat : seatedB (m : Int) bs (K : Int) (maskN (runL m bs K).1 : Nat) = true := seatedB_yes h ⟨Int.natCast_nonneg _, by rw [pw_nat]; omega⟩ (by rw [Int.toNat_natCast, hpc]; exact Int.le_refl _)
    rw [just_iff (by rw [claim_tog]; decide) hseat, claim_tog]
    intro l hl1 hl2 g hg
    rw [Bool.eq_false_iff]
    intro hbad
    unfold badB at hbad
    rw [Bool.and_eq_true, due_iff, wrong2_iff] at hbad
    obtain ⟨⟨hd1, hd2⟩, hw⟩ := hbad
    rw [Int.toNat_natCast] at hd1 hd2 hw
    exact loads_fair hm5 h6 h1 hKm hr hg hl1 hd1 hd2 hw
/-- how many of the first names have ballots -/
def wantT (bs : List Int) (ns : List Nat) (t : Nat) : Nat := ((ns.take t).filter fun x => decide (supN bs x ≠ 0)).length
theorem wantT_yes {bs : List Int} {ns : List Nat} {t : Nat} (h : t < ns.length) (hs : supN bs ns[t] ≠ 0) : wantT bs ns (t + 1) = wantT bs ns t + 1 := by
  unfold wantT
  rw [List.take_succ_eq_append_getElem h, filter_snoc, if_pos (decide_eq_true hs)]
theorem wantT_no {bs : List Int} {ns : List Nat} {t : Nat} (h : t < ns.length) (hs : supN bs ns[t] = 0) : wantT bs ns (t + 1) = wantT bs ns t := by
  unfold wantT
  rw [List.take_succ_eq_append_getElem h, filter_snoc, if_neg (by simp [hs])]; rfl
theorem wantT_le (bs : List Int) (ns : List Nat) (t : Nat) : wantT bs ns t ≤ t := Nat.le_trans (List.length_filter_le _ _) (List.length_take_le _ _)
theorem implLd_was (c k : Int) (a : Option Addr) (cap : Nat) (bs : List Int) (s : List Nat × List Nat × Nat) (w : World) (hi : Ints w a bs) (hn : bs.length ≤ 1048576) (h : loadA c bs k = s) :
    Calls Try.prog 9 #[.int .i64 c, .slice a bs.length cap, .int .i64 k] w fun e w' => LdE w w' s e := by
  subst h
  exact implLoaded_any c k a cap bs w hi hn
theorem specLd_was (c k : Int) (a : Option Addr) (cap : Nat) (bs : List Int) (s : List Nat × List Nat × Nat) (w : World) (hi : Ints w a bs) (hn : bs.length ≤ 1048576) (h : loadA c bs k = s) :
    Calls Try.prog 7 #[.int .i64 c, .slice a bs.length cap, .int .i64 k] w fun e w' => LdE w w' s e := by
  subst h
  exact specLoaded_any c k a cap bs w hi hn
set_option maxHeartbeats 2000000 in
set_option maxRecDepth 100000 in
theorem walk_FnLoadedOf (a : Option Addr) (zs : List Nat) (cap : Nat) (w : World) (hi : Byts w a zs) (hl : zs.length ≤ maxLen) (hc : zs.length ≤ cap) :
    Calls Try.prog 5 #[.slice a zs.length cap] w fun e w' => e = .returned (.bool true) ∧ Below w.heap.size w w' := by
  by_cases h : 1048576 < zs.length
  · unfold maxLen at hl
    go_enter Try.func5, Try.ntmps5
    go_wp2
    go_ret
    exact ⟨rfl, Below.refl _ _⟩
  · have hl' : zs.length ≤ 1048576 := by omega
    clear h hl
    go_enter Try.func5, Try.ntmps5
    go_wp2_with fail
    refine (drawLd_any _ _ _ _ hi hl' hc).mono ?_
    rintro e w1 ⟨c, ab, bs, cb, k, rfl, hc6, ib, hb6, hk32, hb1⟩
    have hn : bs.length ≤ 1048576 := by omega
    clear hi
    by_cases hS : seatsB c bs k = true
    · obtain ⟨m, K, rfl, rfl, hm5, hK1, hKm, h6, hA, OK, hmk, hm32, hpc, htot, hjust⟩ := load_facts hS
      have hv := (seats_of hS).1
      have HAP := hide (appA_yes (c := (m : Int)) (bs := bs) (balB_true hv))
      rw [Int.toNat_natCast] at HAP
      obtain ⟨⟨ns, ls, den⟩, hs⟩ : ∃ s, runL m bs K = s := ⟨_, rfl⟩
      rw [hs] at hA OK hmk hm32 hpc htot hjust
      obtain ⟨hnl, hnd, hlt, hll, hd1, hd6, hlb⟩ := OK
      simp only at hA hmk hm32 hpc htot hjust hnl hnd hlt hll hd1 hd6 hlb
      have hd7 : den ≤ 7776 := Nat.le_trans hd6 (pow6 K (by omega))
      have htr : ∀ t, t ≤ bs.length → -1073741824 ≤ totK (nz ls) t ∧ totK (nz ls) t ≤ 1073741824 := by
        have key : ∀ t, 0 ≤ totK (nz ls) t ∧ totK (nz ls) t ≤ (t : Int) * 38880 := by
          intro t
          induction t with
          | zero => simp [totK]
          | succ t ih =>
            have h1 := Nat.le_trans (hlb t) (Nat.mul_le_mul (show K ≤ 5 from by omega) hd7)
            rw [totK, nz_getD]
            omega
        intro t ht
        have := key t
        omega
      obtain ⟨W, hW⟩ : ∃ W, W = maskN ns := ⟨_, rfl⟩
      rw [← hW] at hmk hm32 hpc hjust
      have hwf : wantT bs ns K = (ns.filter fun x => decide (supN bs x ≠ 0)).length := by unfold wantT; rw [← hnl, List.take_length]
      rw [← hwf] at htot
      have hwl := wantT_le bs ns K
      obtain ⟨Z, hZ⟩ : ∃ Z, Z = nz ns := ⟨_, rfl⟩
      obtain ⟨X, hX⟩ : ∃ X, X = nz ls := ⟨_, rfl⟩
      have hZl : Z.length = K := by rw [hZ, nz_len, hnl]
      have hXl : X.length = bs.length := by rw [hX, nz_len, hll]
      rw [← hZ] at hmk
      rw [← hX] at htot htr
      rw [← hXl] at htot htr
      have HAA := hide hA
      have HMK := hide hmk
      have HTOT := hide htot
      have HTR := hide htr
      have HJ := hide hjust
      have HPC := hide hpc
      have HZ := hide hZ
      have HX := hide hX
      have HLT := hide hlt
      have HNL := hide hnl
      have HZL := hide hZl
      have HXL := hide hXl
      have hZ5 : Z.length ≤ 5 := by omega
      have hX6 : X.length ≤ 6 := by omega
      have hdz : ((den : Int) == 0) = false := by rw [beq_eq_false_iff_ne]; omega
      have hdd : ((den : Int) != (den : Int)) = false := by simp
      clear hA hmk htot htr hjust hs hW hZ hX hwf hlb hnl hlt hnd hll hd6 hpc hS hv hZl hXl
      go_wp2_with fail
      refine (implLd_was _ _ _ _ _ _ _ ib hn HAA.out).mono ?_
      rintro e w2 ⟨v2, x2, rfl, own2, ox2, _, hb2⟩
      simp only at own2 ox2
      rw [← HZ.out] at own2
      rw [← HX.out] at ox2
      obtain ⟨a2, c2, rfl, i2, _⟩ := own2.form
      obtain ⟨b2, d2, rfl, j2, _⟩ := ox2.form
      have ib2 := ib.below hb2
      have B2 := bnext hb1 hb2
      clear ib hb1 hb2 own2 ox2
      go_wp2_with fail
      refine (specLd_was _ _ _ _ _ _ _ ib2 hn HAA.out).mono ?_
      rintro e w3 ⟨v3, x3, rfl, own3, ox3, _, hb3⟩
      simp only at own3 ox3
      rw [← HZ.out] at own3
      rw [← HX.out] at ox3
      obtain ⟨a3, c3, rfl, i3, _⟩ := own3.form
      obtain ⟨b3, d3, rfl, j3, _⟩ := ox3.form
      have ib3 := ib2.below hb3
      have B3 := bnext B2 hb3
      have k2 := i2.below hb3
      have l2 := j2.below hb3
      clear ib2 B2 hb3 own3 ox3 i2 j2
      go_wp2_with fail
      refine (equalInts_yes _ _ _ _ _ _ k2 i3 (by omega)).mono ?_
      rintro e w4 ⟨rfl, hb4⟩
      go_wp2_with fail
      refine (equalInts_yes _ _ _ _ _ _ (l2.below hb4) (j3.below hb4) (by omega)).mono ?_
      rintro e w5 ⟨rfl, hb5⟩
      have hb45 := bnext hb4 hb5
      have ib5 := ib3.below hb45
      have B5 := bnext B3 hb45
      have k5 := k2.below hb45
      have l5 := l2.below hb45
      clear ib3 B3 hb4 hb5 hb45 i3 j3 k2 l2
      go_wp2_with fail
      refine (implApp_any _ _ _ _ _ ib5 hn).mono ?_
      rintro e w6 ⟨v6, rfl, own6, hb6'⟩
      rw [HAP.out] at own6
      obtain ⟨a6, c6, rfl, i6, _⟩ := own6.form
      have hsl := supL_length m bs
      have ib6 := ib5.below hb6'
      have B6 := bnext B5 hb6'
      have k6 := k5.below hb6'
      have l6 := l5.below hb6'
      clear ib5 B5 k5 l5 hb6' own6
      go_wp2_with fail
      go_loop [13, 14] (fun n i => ∃ t : Nat, t ≤ Z.length ∧ i = .int .i64 t ∧ n = .int .i64 (wantT bs ns t : Nat)) (fun _ i => Z.length - (intOf i).toNat)
      case atStart => exact ⟨0, Nat.zero_le _, rfl, rfl⟩
      case round =>
        obtain ⟨t, ht, rfl, rfl⟩ := hrel
        have hwt := wantT_le bs ns t
        by_cases hlt : t < Z.length
        · have htn : t < ns.length := by rw [HNL.out, ← HZL.out]; exact hlt
          obtain ⟨b, off, rfl, hbl, hc⟩ := k6 (by omega)
          have hck := hc t hlt
          have hzt : Z.getD t 0 = ((ns[t] : Nat) : Int) := by
            rw [HZ.out, nz_getD, List.getD_eq_getElem?_getD, List.getElem?_eq_getElem htn]; rfl
          rw [hzt] at hck
          have hxm := HLT.out _ (List.getElem_mem htn)
          have HWY := hide (fun hs => wantT_yes (bs := bs) htn hs)
          have HWN := hide (fun hs => wantT_no (bs := bs) htn hs)
          obtain ⟨x, hx⟩ : ∃ x, x = ns[t] := ⟨_, rfl⟩
          rw [← hx] at hck hxm HWY HWN
          obtain ⟨b2, off2, rfl, hbl2, hc2⟩ := i6 (by rw [hsl]; omega)
          have hcx := hc2 x (by rw [hsl]; exact hxm)
          rw [supL_getD m bs x hxm] at hcx
          have hsp := supN_le bs x
          obtain ⟨sp, hsp2⟩ : ∃ sp, sp = supN bs x := ⟨_, rfl⟩
          rw [← hsp2] at hcx hsp HWY HWN
          clear hc hc2 hzt hx hsp2 k6 l6
          have hsl2 : (supL m bs).length = m := hsl
          by_cases hz : sp = 0
          · have HN := hide (HWN.out hz)
            subst hz
            go_wp2
            go_round
            case rel => exact ⟨t + 1, by omega, by go_num, by rw [HN.out]⟩
            case measure => simp only [intOf]; omega
          · have HN := hide (HWY.out hz)
            go_wp2
            go_round
            case rel => exact ⟨t + 1, by omega, by go_num, by rw [HN.out]; go_num⟩
            case measure => simp only [intOf]; omega
        · obtain rfl : t = Z.length := by omega
          obtain ⟨wn, hwn⟩ : ∃ wn, wn = wantT bs ns Z.length := ⟨_, rfl⟩
          have hwn2 : wantT bs ns K = wn := by rw [hwn, HZL.out]
          have HT2 := HTOT.out
          rw [hwn2] at HT2
          rw [← hwn]
          have hwn5 : wn ≤ 5 := by have := wantT_le bs ns Z.length; omega
          obtain ⟨P, hP⟩ : ∃ P, P = den * wn := ⟨_, rfl⟩
          rw [← hP] at HT2
          have hP2 : P ≤ 38880 := by rw [hP]; exact Nat.mul_le_mul hd7 hwn5
          have hmul : (wn : Int) * (den : Int) = (P : Int) := by rw [hP, Int.natCast_mul, Int.mul_comm]
          have HTT := hide HT2
          have hzk : ((Z.length : Int) == (K : Int)) = true := by rw [HZL.out]; simp
          have hkk : ((K : Int) == (K : Int)) = true := by simp
          have hpp : ((P : Int) == (P : Int)) = true := by simp
          have hW64 : W < 64 := by omega
          clear hP hwn hwn2 HT2 ht hwt hlt hwl
          go_wp2_with fail
          refine (implMask_any _ _ _ _ k6 (by omega)).mono ?_
          rintro e w7 ⟨rfl, hb7⟩
          rw [HMK.out]
          have ib7 := ib6.below hb7
          have l7 := l6.below hb7
          have B7 := bnext B6 hb7
          clear ib6 l6 B6 hb7 k6
          go_wp2_with (first
            | (go_at_call 19; refine (lawWeight_any W _ hW64).mono ?_; rintro e w' ⟨rfl, rfl⟩; rw [HPC.out])
            | (go_at_call 20; refine (lawTotal_any _ _ _ _ l7 (by omega) HTR.out).mono ?_; rintro e w' ⟨rfl, rfl⟩; rw [HTT.out])
            | (go_at_call 21; refine (implIsJust_any togS _ _ _ _ _ _ _ ib7 hn).mono ?_; rintro e w8 ⟨rfl, hb8⟩; rw [HJ.out]))
          go_ret
          exact ⟨rfl, bnext B7 hb8⟩
    · have hS : seatsB c bs k = false := by simpa using hS
      have HAA := hide (loadA_no hS)
      clear hS
      go_wp2_with fail
      refine (implLd_was _ _ _ _ _ _ _ ib hn HAA.out).mono ?_
      rintro e w2 ⟨v2, x2, rfl, own2, ox2, _, hb2⟩
      obtain ⟨a2, c2, rfl, i2, _⟩ := own2.form
      obtain ⟨b2, d2, rfl, j2, _⟩ := ox2.form
      have ib2 := ib.below hb2
      have B2 := bnext hb1 hb2
      clear ib hb1 hb2 own2 ox2
      go_wp2_with fail
      refine (specLd_was _ _ _ _ _ _ _ ib2 hn HAA.out).mono ?_
      rintro e w3 ⟨v3, x3, rfl, own3, ox3, _, hb3⟩
      obtain ⟨a3, c3, rfl, i3, _⟩ := own3.form
      obtain ⟨b3, d3, rfl, j3, _⟩ := ox3.form
      have B3 := bnext B2 hb3
      have k2 := i2.below hb3
      have l2 := j2.below hb3
      clear ib2 B2 hb3 own3 ox3 i2 j2
      go_wp2_with fail
      refine (equalInts_yes _ _ _ _ (nz []) _ k2 i3 (by decide)).mono ?_
      rintro e w4 ⟨rfl, hb4⟩
      go_wp2_with fail
      refine (equalInts_yes _ _ _ _ (nz []) _ (l2.below hb4) (j3.below hb4) (by decide)).mono ?_
      rintro e w5 ⟨rfl, hb5⟩
      have hb45 := bnext hb4 hb5
      go_wp2_with fail
      refine (equalInts_yes _ _ _ _ (nz []) _ (k2.below hb45) (i3.below hb45) (by decide)).mono ?_
      rintro e w6 ⟨rfl, hb6'⟩
      have hb46 := bnext hb45 hb6'
      go_wp2_with fail
      refine (equalInts_yes _ _ _ _ (nz []) _ (l2.below hb46) (j3.below hb46) (by decide)).mono ?_
      rintro e w7 ⟨rfl, hb7'⟩
      go_wp2
      go_ret
      exact ⟨rfl, bnext (bnext B3 hb46) hb7'⟩
end Go.Proofs.Ythkikjidkehheaa

/- PBuy: The promise of BoughtOf: what is left is what is not paid, and its committee is just by someone. -/
namespace Go.Proofs.Ythkikjidkehheaa
open Go.RowKit Go.Joins

/-- what the law wants of the names and what is left -/
theorem buy_facts {c : Int} {bs : List Int} {k : Int} (h : seatsB c bs k = true) : ∃ m K : Nat, c = (m : Int) ∧ k = (K : Int) ∧ m ≤ 5 ∧ 1 ≤ K ∧ K ≤ m ∧ 1 ≤ bs.length ∧ bs.length ≤ 6 ∧ boughtA c bs k = runB m bs K (m + 1) ∧ ByOk m bs K (m + 1) (runB m bs K (m + 1)) ∧ maskV (nz (runB m bs K (m + 1)).1) = (maskN (runB m bs K (m + 1)).1 : Nat) ∧ maskN (runB m bs K (m + 1)).1 < 32 ∧ pc (maskN (runB m bs K (m + 1)).1) = (runB m bs K (m + 1)).1.length ∧ (runB m bs K (m + 1)).1.length ≤ K ∧
    totK (nz (runB m bs K (m + 1)).2.1) bs.length = (((K - (runB m bs K (m + 1)).1.length) * bs.length * (runB m bs K (m + 1)).2.2 : Nat) : Int) ∧ justB somS c bs k (maskN (runB m bs K (m + 1)).1 : Nat) = true := by
  have hS := seats_of h
  obtain ⟨m, rfl⟩ := Int.eq_ofNat_of_zero_le (show 0 ≤ c from by have := hS.1.1; omega)
  obtain ⟨K, rfl⟩ := Int.eq_ofNat_of_zero_le (show 0 ≤ k from by have := hS.2; omega)
  have hm5 : m ≤ 5 := by have := hS.1.1; omega
  have hKm : K ≤ m := by have := hS.2; omega
  have hK1 : 1 ≤ K := by have := hS.2; omega
  have h6 : bs.length ≤ 6 := by have := hS.1.2.1; omega
  have h1 : 1 ≤ bs.length := by have := hS.1.2.1; omega
  have hr := bal_range hS.1
  have OK := runB_ok (c := m) (bs := bs) (k := K) h6 (m + 1)
  have hlt5 : ∀ x ∈ (runB m bs K (m + 1)).1, x < 5 := fun x hx => by have := OK.lt x hx; omega
  have hmk : maskV (nz (runB m bs K (m + 1)).1) = (maskN (runB m bs K (m + 1)).1 : Nat) := by rw [maskV_yes (nz_names hlt5), maskK_nz _ OK.nd hlt5]
  have hpc : pc (maskN (runB m bs K (m + 1)).1) = (runB m bs K (m + 1)).1.length := pc_mask _ OK.nd hlt5
  have hm32 := (mask_ok _ OK.nd hlt5).1
  have hml := mask_lt hm5 OK.nd OK.lt
  have htot := tot_run (c := m) (bs := bs) (K := K) (m + 1)
  unfold TotB at htot
  have hX : 1 ≤ bs.length * (runB m bs K (m + 1)).2.2 := Nat.mul_pos h1 OK.d1
  have hjK : (runB m bs K (m + 1)).1.length ≤ K := Nat.le_of_mul_le_mul_right (c := bs.length * (runB m bs K (m + 1)).2.2) (by omega) hX
  refine ⟨m, K, rfl, rfl, hm5, hK1, hKm, h1, h6, by rw [boughtA_yes h, Int.toNat_natCast, Int.toNat_natCast], OK, hmk, hm32, hpc, hjK, ?_, ?_⟩
  · have key : ∀ n, totK (nz (runB m bs K (m + 1)).2.1) n = ((su (fun i => (runB m bs K (m + 1)).2.1.getD i 0) n : Nat) : Int) := by
      intro n
      induction n with
      | zero => rfl
      | succ n ih => rw [totK, su, ih, nz_getD]; omega
    rw [key, Nat.mul_assoc, Nat.sub_mul]
    omega
  · have hseat : seatedB (m : Int) bs (K : Int) (maskN (runB m bs K (m + 1)).1 : Nat) = true := seatedB_yes h ⟨Int.natCast_nonneg _, by rw [pw_nat]; omega⟩ (by rw [Int.toNat_natCast, hpc]; omega)
    rw [just_iff (by rw [claim_som]; decide) hseat, claim_som]
    intro l hl1 hl2 g hg
    rw [Bool.eq_false_iff]
    intro hbad
    unfold badB at hbad
    rw [Bool.and_eq_true, due_iff, wrong3_iff hl1] at hbad
    obtain ⟨⟨hd1, hd2⟩, hw⟩ := hbad
    rw [Int.toNat_natCast] at hd1 hd2 hw
    exact bought_fair hm5 h6 h1 hr hg hl1 hd1 hd2 hw
theorem implBo_was (c k : Int) (a : Option Addr) (cap : Nat) (bs : List Int) (s : List Nat × List Nat × Nat) (w : World) (hi : Ints w a bs) (hn : bs.length ≤ 1048576) (h : boughtA c bs k = s) :
    Calls Try.prog 14 #[.int .i64 c, .slice a bs.length cap, .int .i64 k] w fun e w' => LdE w w' s e := by
  subst h
  exact implBought_any c k a cap bs w hi hn
theorem specBo_was (c k : Int) (a : Option Addr) (cap : Nat) (bs : List Int) (s : List Nat × List Nat × Nat) (w : World) (hi : Ints w a bs) (hn : bs.length ≤ 1048576) (h : boughtA c bs k = s) :
    Calls Try.prog 13 #[.int .i64 c, .slice a bs.length cap, .int .i64 k] w fun e w' => LdE w w' s e := by
  subst h
  exact specBought_any c k a cap bs w hi hn
set_option maxHeartbeats 2000000 in
set_option maxRecDepth 100000 in
theorem walk_FnBoughtOf (a : Option Addr) (zs : List Nat) (cap : Nat) (w : World) (hi : Byts w a zs) (hl : zs.length ≤ maxLen) (hc : zs.length ≤ cap) :
    Calls Try.prog 6 #[.slice a zs.length cap] w fun e w' => e = .returned (.bool true) ∧ Below w.heap.size w w' := by
  by_cases h : 1048576 < zs.length
  · unfold maxLen at hl
    go_enter Try.func6, Try.ntmps6
    go_wp2
    go_ret
    exact ⟨rfl, Below.refl _ _⟩
  · have hl' : zs.length ≤ 1048576 := by omega
    clear h hl
    go_enter Try.func6, Try.ntmps6
    go_wp2_with fail
    refine (drawBo_any _ _ _ _ hi hl' hc).mono ?_
    rintro e w1 ⟨c, ab, bs, cb, k, rfl, hc6, ib, hb6, hk32, hb1⟩
    have hn : bs.length ≤ 1048576 := by omega
    clear hi
    by_cases hS : seatsB c bs k = true
    · obtain ⟨m, K, rfl, rfl, hm5, hK1, hKm, h1, h6, hA, OK, hmk, hm32, hpc, hjK, htot, hjust⟩ := buy_facts hS
      obtain ⟨⟨ns, ls, den⟩, hs⟩ : ∃ s, runB m bs K (m + 1) = s := ⟨_, rfl⟩
      rw [hs] at hA OK hmk hm32 hpc hjK htot hjust
      obtain ⟨_, hnd, hlt, hll, hd1, hd6, hlb⟩ := OK
      simp only at hA hmk hm32 hpc hjK htot hjust hnd hlt hll hd1 hd6 hlb
      obtain ⟨j, hnl⟩ : ∃ j, ns.length = j := ⟨_, rfl⟩
      rw [hnl] at hd6 hjK htot hpc
      have hd7 : den ≤ 7776 := Nat.le_trans hd6 (pow6 j (by omega))
      have htr : ∀ t, t ≤ bs.length → -1073741824 ≤ totK (nz ls) t ∧ totK (nz ls) t ≤ 1073741824 := by
        have key : ∀ t, 0 ≤ totK (nz ls) t ∧ totK (nz ls) t ≤ (t : Int) * 38880 := by
          intro t
          induction t with
          | zero => simp [totK]
          | succ t ih =>
            have h1 := Nat.le_trans (hlb t) (Nat.mul_le_mul (show K ≤ 5 from by omega) hd7)
            rw [totK, nz_getD]
            omega
        intro t ht
        have := key t
        omega
      obtain ⟨W, hW⟩ : ∃ W, W = maskN ns := ⟨_, rfl⟩
      rw [← hW] at hmk hm32 hpc hjust
      obtain ⟨Z, hZ⟩ : ∃ Z, Z = nz ns := ⟨_, rfl⟩
      obtain ⟨X, hX⟩ : ∃ X, X = nz ls := ⟨_, rfl⟩
      have hZl : Z.length = j := by rw [hZ, nz_len, hnl]
      have hXl : X.length = bs.length := by rw [hX, nz_len, hll]
      obtain ⟨r, hr⟩ : ∃ r, K - j = r := ⟨_, rfl⟩
      rw [hr] at htot
      have hkr : (K : Int) - (Z.length : Int) = (r : Int) := by rw [hZl]; omega
      have hr5 : r ≤ 5 := by omega
      obtain ⟨Q, hQ⟩ : ∃ Q, r * bs.length = Q := ⟨_, rfl⟩
      have hQ3 : Q ≤ 30 := by rw [← hQ]; exact Nat.mul_le_mul hr5 h6
      have hqq : (r : Int) * (bs.length : Int) = (Q : Int) := by rw [← Int.natCast_mul, hQ]
      rw [hQ] at htot
      obtain ⟨P, hP⟩ : ∃ P, Q * den = P := ⟨_, rfl⟩
      have hP2 : P ≤ 233280 := by rw [← hP]; exact Nat.mul_le_mul hQ3 hd7
      have hmul : (Q : Int) * (den : Int) = (P : Int) := by rw [← Int.natCast_mul, hP]
      rw [hP] at htot
      rw [← hZ] at hmk
      rw [← hX] at htot htr
      rw [← hXl] at htot htr
      have HAA := hide hA
      have HMK := hide hmk
      have HTT := hide htot
      have HTR := hide htr
      have HJ := hide hjust
      have HPC := hide hpc
      have HZ := hide hZ
      have HX := hide hX
      have HZL := hide hZl
      have HXL := hide hXl
      have hZ5 : Z.length ≤ 5 := by omega
      have hX6 : X.length ≤ 6 := by omega
      have hdz : ((den : Int) == 0) = false := by rw [beq_eq_false_iff_ne]; omega
      have hdd : ((den : Int) != (den : Int)) = false := by simp
      have hzk : ((Z.length : Int) ≤ (K : Int)) := by rw [hZl]; omega
      have hpp : ((P : Int) == (P : Int)) = true := by simp
      have hjz : ((j : Int) == (Z.length : Int)) = true := by rw [hZl]; simp
      have hW64 : W < 64 := by omega
      have HXN : Hid (∀ t, X.getD t 0 = ((ls.getD t 0 : Nat) : Int)) := fun t => by rw [hX, nz_getD]
      clear hA hmk htot htr hjust hs hW hZ hX hlb hnl hlt hnd hll hd6 hpc hS hZl hXl hr hQ hP
      go_wp2_with fail
      refine (implBo_was _ _ _ _ _ _ _ ib hn HAA.out).mono ?_
      rintro e w2 ⟨v2, x2, rfl, own2, ox2, _, hb2⟩
      simp only at own2 ox2
      rw [← HZ.out] at own2
      rw [← HX.out] at ox2
      obtain ⟨a2, c2, rfl, i2, _⟩ := own2.form
      obtain ⟨b2, d2, rfl, j2, _⟩ := ox2.form
      have ib2 := ib.below hb2
      have B2 := bnext hb1 hb2
      clear ib hb1 hb2 own2 ox2
      go_wp2_with fail
      refine (specBo_was _ _ _ _ _ _ _ ib2 hn HAA.out).mono ?_
      rintro e w3 ⟨v3, x3, rfl, own3, ox3, _, hb3⟩
      simp only at own3 ox3
      rw [← HZ.out] at own3
      rw [← HX.out] at ox3
      obtain ⟨a3, c3, rfl, i3, _⟩ := own3.form
      obtain ⟨b3, d3, rfl, j3, _⟩ := ox3.form
      have ib3 := ib2.below hb3
      have B3 := bnext B2 hb3
      have k2 := i2.below hb3
      have l2 := j2.below hb3
      clear ib2 B2 hb3 own3 ox3 i2 j2
      go_wp2_with fail
      refine (equalInts_yes _ _ _ _ _ _ k2 i3 (by omega)).mono ?_
      rintro e w4 ⟨rfl, hb4⟩
      go_wp2_with fail
      refine (equalInts_yes _ _ _ _ _ _ (l2.below hb4) (j3.below hb4) (by omega)).mono ?_
      rintro e w5 ⟨rfl, hb5⟩
      have hb45 := bnext hb4 hb5
      have ib5 := ib3.below hb45
      have B5 := bnext B3 hb45
      have k5 := k2.below hb45
      have l5 := l2.below hb45
      clear ib3 B3 hb4 hb5 hb45 i3 j3 k2 l2
      go_wp2_with fail
      refine (implMask_any _ _ _ _ k5 (by omega)).mono ?_
      rintro e w7 ⟨rfl, hb7⟩
      rw [HMK.out]
      have ib7 := ib5.below hb7
      have l7 := l5.below hb7
      have B7 := bnext B5 hb7
      clear ib5 l5 B5 hb7 k5
      go_wp2_with fail
      go_loop [13] (fun i => ∃ t : Nat, t ≤ X.length ∧ i = .int .i64 t) (fun i => X.length - (intOf i).toNat)
      case atStart => exact ⟨0, Nat.zero_le _, rfl⟩
      case round =>
        obtain ⟨t, ht, rfl⟩ := hrel
        by_cases hlt : t < X.length
        · obtain ⟨b, off, rfl, hbl, hc⟩ := l7 (by omega)
          have hck := hc t hlt
          rw [HXN.out] at hck
          obtain ⟨y, hy⟩ : ∃ y, y = ls.getD t 0 := ⟨_, rfl⟩
          rw [← hy] at hck
          have hy0 : ¬ (y : Int) < 0 := by omega
          clear hc hy
          go_wp2
          go_round
          case rel => exact ⟨t + 1, by omega, by go_num⟩
          case measure => simp only [intOf]; omega
        · obtain rfl : t = X.length := by omega
          clear ht hlt
          go_wp2_with (first
            | (go_at_call 19; refine (lawWeight_any W _ hW64).mono ?_; rintro e w' ⟨rfl, rfl⟩; rw [HPC.out])
            | (go_at_call 20; refine (lawTotal_any _ _ _ _ l7 (by omega) HTR.out).mono ?_; rintro e w' ⟨rfl, rfl⟩; rw [HTT.out])
            | (go_at_call 21; refine (implIsJust_any somS _ _ _ _ _ _ _ ib7 hn).mono ?_; rintro e w8 ⟨rfl, hb8⟩; rw [HJ.out]))
          go_ret
          exact ⟨rfl, bnext B7 hb8⟩
    · have hS : seatsB c bs k = false := by simpa using hS
      have HAA := hide (boughtA_no hS)
      clear hS
      go_wp2_with fail
      refine (implBo_was _ _ _ _ _ _ _ ib hn HAA.out).mono ?_
      rintro e w2 ⟨v2, x2, rfl, own2, ox2, _, hb2⟩
      obtain ⟨a2, c2, rfl, i2, _⟩ := own2.form
      obtain ⟨b2, d2, rfl, j2, _⟩ := ox2.form
      have ib2 := ib.below hb2
      have B2 := bnext hb1 hb2
      clear ib hb1 hb2 own2 ox2
      go_wp2_with fail
      refine (specBo_was _ _ _ _ _ _ _ ib2 hn HAA.out).mono ?_
      rintro e w3 ⟨v3, x3, rfl, own3, ox3, _, hb3⟩
      obtain ⟨a3, c3, rfl, i3, _⟩ := own3.form
      obtain ⟨b3, d3, rfl, j3, _⟩ := ox3.form
      have B3 := bnext B2 hb3
      have k2 := i2.below hb3
      have l2 := j2.below hb3
      clear ib2 B2 hb3 own3 ox3 i2 j2
      go_wp2_with fail
      refine (equalInts_yes _ _ _ _ (nz []) _ k2 i3 (by decide)).mono ?_
      rintro e w4 ⟨rfl, hb4⟩
      go_wp2_with fail
      refine (equalInts_yes _ _ _ _ (nz []) _ (l2.below hb4) (j3.below hb4) (by decide)).mono ?_
      rintro e w5 ⟨rfl, hb5⟩
      have hb45 := bnext hb4 hb5
      go_wp2_with fail
      refine (equalInts_yes _ _ _ _ (nz []) _ (k2.below hb45) (i3.below hb45) (by decide)).mono ?_
      rintro e w6 ⟨rfl, hb6'⟩
      have hb46 := bnext hb45 hb6'
      go_wp2_with fail
      refine (equalInts_yes _ _ _ _ (nz []) _ (l2.below hb46) (j3.below hb46) (by decide)).mono ?_
      rintro e w7 ⟨rfl, hb7'⟩
      go_wp2
      go_ret
      exact ⟨rfl, bnext (bnext B3 hb46) hb7'⟩
end Go.Proofs.Ythkikjidkehheaa
