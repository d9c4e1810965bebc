/- Groups that are wronged: the plain mathematics. -/
import Derived.Test.YthkikjidkehheaaScan
import Derived.Test.YthkikjidkehheaaSeat
import Derived.Test.YthkikjidkehheaaApp
import Derived.Test.YthkikjidkehheaaScoM
namespace Go.Proofs.Ythkikjidkehheaa
open Go.RowKit Go.Joins

/-- the ballots of a group, of the first k -/
def memK (bs : List Int) (g : Nat) : Nat → List Int
  | 0 => []
  | k + 1 => if bitN g k = 1 then memK bs g k ++ [bs.getD k 0] else memK bs g k
theorem memK_yes {bs : List Int} {g k : Nat} (h : bitN g k = 1) : memK bs g (k + 1) = memK bs g k ++ [bs.getD k 0] := if_pos h
theorem memK_no {bs : List Int} {g k : Nat} (h : bitN g k ≠ 1) : memK bs g (k + 1) = memK bs g k := if_neg h
theorem memK_len (bs : List Int) (g : Nat) : ∀ k, (memK bs g k).length ≤ k
  | 0 => Nat.le_refl _
  | k + 1 => by
    have ih := memK_len bs g k
    by_cases h : bitN g k = 1
    · rw [memK_yes h, List.length_append]; simp; omega
    · rw [memK_no h]; omega
theorem memK_mem (bs : List Int) (g : Nat) : ∀ k, k ≤ bs.length → ∀ x ∈ memK bs g k, x ∈ bs
  | 0, _, x, hx => by cases hx
  | k + 1, hk, x, hx => by
    by_cases h : bitN g k = 1
    · rw [memK_yes h, List.mem_append, List.mem_singleton] at hx
      rcases hx with hx | rfl
      · exact memK_mem bs g k (by omega) x hx
      · rw [getD_lt (by omega)]; exact mem_of_at (by omega)
    · rw [memK_no h] at hx
      exact memK_mem bs g k (by omega) x hx
def memL (bs : List Int) (g : Nat) : List Int := memK bs g bs.length
/-- how many of the first k places are in a group -/
def cntK (g : Nat) : Nat → Nat
  | 0 => 0
  | k + 1 => cntK g k + bitN g k
theorem memK_cnt (bs : List Int) (g : Nat) : ∀ k, (memK bs g k).length = cntK g k
  | 0 => rfl
  | k + 1 => by
    have ih := memK_cnt bs g k
    have hb := bitN_le g k
    by_cases h : bitN g k = 1
    · rw [memK_yes h, List.length_append, ih]; show cntK g k + 1 = cntK g k + bitN g k; rw [h]
    · rw [memK_no h, ih]; show cntK g k = cntK g k + bitN g k; omega
theorem cnt_pc (g n : Nat) (hn : n ≤ 6) (hg : g < 2 ^ n) : cntK g n = pc g := by
  have h : ∀ n : Fin 7, ∀ g : Fin 64, g.val < 2 ^ n.val → cntK g.val n.val = pc g.val := by decide +kernel
  have h64 : 2 ^ n ≤ 2 ^ 6 := Nat.pow_le_pow_right (by omega) hn
  exact h ⟨n, by omega⟩ ⟨g, by omega⟩ hg
theorem memL_len {bs : List Int} {g : Nat} (hn : bs.length ≤ 6) (hg : g < 2 ^ bs.length) : (memL bs g).length = pc g := by
  unfold memL; rw [memK_cnt, cnt_pc g _ hn hg]

/-- what all of a list agree on, of x -/
def andL (ms : List Int) (x : Nat) : Nat := ms.foldl (fun a b => a &&& b.toNat) x
/-- what one of a list has, or x -/
def orL (ms : List Int) (x : Nat) : Nat := ms.foldl (fun a b => a ||| b.toNat) x
/-- how many of w one of a list has at most, at least x -/
def mostL (ms : List Int) (w x : Nat) : Nat := ms.foldl (fun a b => max a (pc (b.toNat &&& w))) x
theorem andL_snoc (ms : List Int) (b : Int) (x : Nat) : andL (ms ++ [b]) x = andL ms x &&& b.toNat := by unfold andL; rw [List.foldl_append]; rfl
theorem orL_snoc (ms : List Int) (b : Int) (x : Nat) : orL (ms ++ [b]) x = orL ms x ||| b.toNat := by unfold orL; rw [List.foldl_append]; rfl
theorem mostL_snoc (ms : List Int) (b : Int) (w x : Nat) : mostL (ms ++ [b]) w x = max (mostL ms w x) (pc (b.toNat &&& w)) := by unfold mostL; rw [List.foldl_append]; rfl
theorem andL_le (ms : List Int) : ∀ x, andL ms x ≤ x := by
  induction ms with
  | nil => intro x; exact Nat.le_refl _
  | cons b ms ih => intro x; exact Nat.le_trans (ih _) Nat.and_le_left
theorem orL_lt (ms : List Int) (h : ∀ b ∈ ms, 0 ≤ b ∧ b ≤ 31) : ∀ x, x < 32 → orL ms x < 32 := by
  induction ms with
  | nil => intro x hx; exact hx
  | cons b ms ih =>
    intro x hx
    have hb := h b (by simp)
    exact ih (fun c hc => h c (by simp [hc])) _ (Nat.or_lt_two_pow (n := 5) hx (by omega))
theorem mostL_le (ms : List Int) (w : Nat) : ∀ x, x ≤ 6 → mostL ms w x ≤ 6 := by
  induction ms with
  | nil => intro x hx; exact hx
  | cons b ms ih => intro x hx; exact ih _ (Nat.max_le.2 ⟨hx, pc_le (b.toNat &&& w)⟩)
theorem and_full (b : Int) (m : Nat) (h : 0 ≤ b ∧ b ≤ ((2 ^ m : Nat) : Int) - 1) : (2 ^ m - 1) &&& b.toNat = b.toNat := by
  rw [Nat.and_comm, Nat.and_two_pow_sub_one_eq_mod]
  exact Nat.mod_eq_of_lt (by omega)
/-- what a list of one and more agree on, begun with the first one -/
theorem andL_cons (b : Int) (ms : List Int) (m : Nat) (h : 0 ≤ b ∧ b ≤ ((2 ^ m : Nat) : Int) - 1) : andL (b :: ms) (2 ^ m - 1) = andL (b :: ms) b.toNat := by
  show andL ms ((2 ^ m - 1) &&& b.toNat) = andL ms (b.toNat &&& b.toNat)
  rw [and_full b m h, Nat.and_self]
theorem pc_zero_iff (x : Nat) (h : x < 32) : pc x = 0 ↔ x = 0 := by
  have : ∀ x : Fin 32, pc x.val = 0 ↔ x.val = 0 := by decide +kernel
  exact this ⟨x, h⟩
theorem orL_band (ms : List Int) (w : Nat) : ∀ x, orL (ms.map (bandI w)) (x &&& w) = orL ms x &&& w := by
  induction ms with
  | nil => intro x; rfl
  | cons b ms ih =>
    intro x
    show orL (ms.map (bandI w)) ((x &&& w) ||| (bandI w b).toNat) = orL ms (x ||| b.toNat) &&& w
    rw [← ih (x ||| b.toNat)]
    congr 1
    show (x &&& w) ||| (((b.toNat &&& w : Nat) : Int)).toNat = (x ||| b.toNat) &&& w
    rw [Int.toNat_natCast, Nat.and_or_distrib_right]
theorem orL_band0 (ms : List Int) (w : Nat) : orL (ms.map (bandI w)) 0 = orL ms 0 &&& w := by
  have := orL_band ms w 0
  rwa [Nat.zero_and] at this
theorem orL_zero (ms : List Int) : ∀ x, orL ms x = 0 ↔ x = 0 ∧ ∀ b ∈ ms, b.toNat = 0 := by
  induction ms with
  | nil => intro x; simp [orL]
  | cons b ms ih =>
    intro x
    show orL ms (x ||| b.toNat) = 0 ↔ _
    rw [ih, Nat.or_eq_zero_iff]
    simp only [List.mem_cons, forall_eq_or_imp]
    constructor
    · rintro ⟨⟨h1, h2⟩, h3⟩; exact ⟨h1, h2, h3⟩
    · rintro ⟨h1, h2, h3⟩; exact ⟨⟨h1, h2⟩, h3⟩
theorem mostL_lt (ms : List Int) (w l : Nat) : ∀ x, mostL ms w x < l ↔ x < l ∧ ∀ b ∈ ms, pc (b.toNat &&& w) < l := by
  induction ms with
  | nil => intro x; simp [mostL]
  | cons b ms ih =>
    intro x
    show mostL ms w (max x (pc (b.toNat &&& w))) < l ↔ _
    rw [ih]
    simp only [List.mem_cons, forall_eq_or_imp]
    constructor
    · rintro ⟨h1, h3⟩; exact ⟨by omega, by omega, h3⟩
    · rintro ⟨h1, h2, h3⟩; exact ⟨by omega, h3⟩

/-- which claim has a name: 1 one, 2 together, 3 someone; 0 for none -/
def claimN (s : ByteArray) : Nat :=
  if (s.toList == [111, 110, 101]) = true then 1
  else if (s.toList == [116, 111, 103, 101, 116, 104, 101, 114]) = true then 2
  else if (s.toList == [115, 111, 109, 101, 111, 110, 101]) = true then 3 else 0
theorem claim_cases (s : ByteArray) :
    (claimN s = 1 ∧ (s.toList == [111, 110, 101]) = true) ∨
    (claimN s = 2 ∧ (s.toList == [111, 110, 101]) = false ∧ (s.toList == [116, 111, 103, 101, 116, 104, 101, 114]) = true) ∨
    (claimN s = 3 ∧ (s.toList == [111, 110, 101]) = false ∧ (s.toList == [116, 111, 103, 101, 116, 104, 101, 114]) = false ∧ (s.toList == [115, 111, 109, 101, 111, 110, 101]) = true) ∨
    (claimN s = 0 ∧ (s.toList == [111, 110, 101]) = false ∧ (s.toList == [116, 111, 103, 101, 116, 104, 101, 114]) = false ∧ (s.toList == [115, 111, 109, 101, 111, 110, 101]) = false) := by
  unfold claimN
  cases h0 : s.toList == [111, 110, 101]
  · cases h1 : s.toList == [116, 111, 103, 101, 116, 104, 101, 114]
    · cases h2 : s.toList == [115, 111, 109, 101, 111, 110, 101] <;> simp
    · simp
  · simp
/-- members to whom l names are due are wronged by the claim q and the committee w -/
def wrongB (q : Nat) (ms : List Int) (l w : Nat) : Bool :=
  if q = 1 then decide (l = 1 ∧ mostL ms w 0 = 0) else if q = 2 then decide (pc (orL ms 0 &&& w) < l) else decide (mostL ms w 0 < l)
/-- so many of k are due to the members, of n ballots -/
def dueB (ms : List Int) (m n k l : Nat) : Bool := decide (l * n ≤ ms.length * k ∧ l ≤ pc (andL ms (2 ^ m - 1)))
/-- the group g is wronged: l names are due to it -/
def badB (q : Nat) (bs : List Int) (m k w l g : Nat) : Bool := dueB (memL bs g) m bs.length k l && wrongB q (memL bs g) l w
theorem badB_due {q : Nat} {bs : List Int} {m k w l g : Nat} (h : dueB (memL bs g) m bs.length k l = false) : badB q bs m k w l g = false := by unfold badB; rw [h]; rfl
theorem badB_yes {q : Nat} {bs : List Int} {m k w l g : Nat} (h : dueB (memL bs g) m bs.length k l = true) : badB q bs m k w l g = wrongB q (memL bs g) l w := by unfold badB; rw [h]; rfl
theorem memL_zero (bs : List Int) : memL bs 0 = [] := by
  have h : ∀ k, memK bs 0 k = [] := by
    intro k
    induction k with
    | zero => rfl
    | succ k ih => rw [memK_no (by unfold bitN; simp), ih]
  exact h _
theorem bad_zero {q : Nat} {bs : List Int} {m k w l : Nat} (h1 : 1 ≤ bs.length) (hl : 1 ≤ l) : badB q bs m k w l 0 = false := by
  refine badB_due ?_
  unfold dueB
  rw [memL_zero]
  refine decide_eq_false (fun h => ?_)
  have h2 : l * bs.length ≤ 0 := by simpa using h.1
  have h3 : 1 * 1 ≤ l * bs.length := Nat.mul_le_mul hl h1
  omega
/-- what WrongedBy finds -/
def wroA (s : ByteArray) (c : Int) (bs : List Int) (k x : Int) : Option (Nat × Nat) :=
  if claimN s ≠ 0 ∧ seatedB c bs k x = true then scan (badB (claimN s) bs c.toNat k.toNat x.toNat) (2 ^ bs.length) k.toNat 1 else none
theorem wroA_yes {s : ByteArray} {c : Int} {bs : List Int} {k x : Int} (h1 : claimN s ≠ 0) (h2 : seatedB c bs k x = true) :
    wroA s c bs k x = scan (badB (claimN s) bs c.toNat k.toNat x.toNat) (2 ^ bs.length) k.toNat 1 := if_pos ⟨h1, h2⟩
theorem wroA_claim {s : ByteArray} {c : Int} {bs : List Int} {k x : Int} (h1 : claimN s = 0) : wroA s c bs k x = none := if_neg (fun h => h.1 h1)
theorem wroA_seat {s : ByteArray} {c : Int} {bs : List Int} {k x : Int} (h2 : seatedB c bs k x = false) : wroA s c bs k x = none := if_neg (fun h => by rw [h2] at h; cases h.2)
/-- what IsJust answers -/
def justB (s : ByteArray) (c : Int) (bs : List Int) (k x : Int) : Bool := (decide (claimN s ≠ 0) && seatedB c bs k x) && (wroA s c bs k x).isNone
theorem pow_le6 (n : Nat) (h : n ≤ 6) : 2 ^ n ≤ 64 := by
  have : 2 ^ n ≤ 2 ^ 6 := Nat.pow_le_pow_right (by omega) h
  omega
end Go.Proofs.Ythkikjidkehheaa
