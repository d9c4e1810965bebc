/- Plain mathematics of this seat: ascending lists, what three judgments make. Nothing of the program. -/
namespace Go.Proofs.Ytbmodiobgkmngaa
/-- strictly ascending -/
def Asc (l : List Nat) : Prop := l.Pairwise (· < ·)

theorem asc_ext : ∀ (l l' : List Nat), Asc l → Asc l' → (∀ x, x ∈ l ↔ x ∈ l') → l = l'
  | [], [], _, _, _ => rfl
  | [], b :: l', _, _, h => by have := (h b).2 (by simp); cases this
  | a :: l, [], _, _, h => by have := (h a).1 (by simp); cases this
  | a :: l, b :: l', h1, h2, h => by
    have h1' := List.pairwise_cons.1 h1
    have h2' := List.pairwise_cons.1 h2
    have hab : a = b := by
      have ha : a ∈ b :: l' := (h a).1 (by simp)
      have hb : b ∈ a :: l := (h b).2 (by simp)
      rcases List.mem_cons.1 ha with e | ha
      · exact e
      · rcases List.mem_cons.1 hb with e | hb
        · exact e.symm
        · have := h2'.1 a ha
          have := h1'.1 b hb
          omega
    subst hab
    rw [asc_ext l l' h1'.2 h2'.2 (fun x => ?_)]
    constructor
    · intro hx
      have := h1'.1 x hx
      rcases List.mem_cons.1 ((h x).1 (List.mem_cons_of_mem _ hx)) with e | e
      · omega
      · exact e
    · intro hx
      have := h2'.1 x hx
      rcases List.mem_cons.1 ((h x).2 (List.mem_cons_of_mem _ hx)) with e | e
      · omega
      · exact e

theorem asc_range (n : Nat) : Asc (List.range n) := List.pairwise_lt_range
theorem asc_filter {l : List Nat} (h : Asc l) (p : Nat → Bool) : Asc (l.filter p) := List.Pairwise.filter p h

/-- An ascending list of numbers below n is what it picks out of the range. -/
theorem asc_range_filter (l : List Nat) (n : Nat) (h : Asc l) (hn : ∀ x ∈ l, x < n) : (List.range n).filter (fun x => l.contains x) = l := by
  refine asc_ext _ _ (asc_filter (asc_range n) _) h (fun x => ?_)
  simp only [List.mem_filter, List.mem_range, List.contains_iff_mem]
  exact ⟨fun h => h.2, fun hx => ⟨hn x hx, hx⟩⟩

theorem filter_length_le (p q : Nat → Bool) (h : ∀ x, q x = true → p x = true) : ∀ l : List Nat, (l.filter q).length ≤ (l.filter p).length
  | [] => by simp
  | a :: l => by
    have ih := filter_length_le p q h l
    by_cases hq : q a = true
    · rw [List.filter_cons_of_pos hq, List.filter_cons_of_pos (h a hq)]; simpa using ih
    · by_cases hp : p a = true
      · rw [List.filter_cons_of_neg hq, List.filter_cons_of_pos hp, List.length_cons]; omega
      · rw [List.filter_cons_of_neg hq, List.filter_cons_of_neg hp]; exact ih
theorem filter_same_length (p q : Nat → Bool) (h : ∀ x, q x = true → p x = true) : ∀ l : List Nat, (l.filter p).length = (l.filter q).length → ∀ x ∈ l, p x = true → q x = true
  | [], _, x, hx, _ => by cases hx
  | a :: l, he, x, hx, hp => by
    have hle := filter_length_le p q h l
    by_cases hq : q a = true
    · rw [List.filter_cons_of_pos hq, List.filter_cons_of_pos (h a hq)] at he
      rcases List.mem_cons.1 hx with e | e
      · subst e; exact hq
      · exact filter_same_length p q h l (by simpa using he) x e hp
    · by_cases hpa : p a = true
      · rw [List.filter_cons_of_neg hq, List.filter_cons_of_pos hpa, List.length_cons] at he
        omega
      · rw [List.filter_cons_of_neg hq, List.filter_cons_of_neg hpa] at he
        rcases List.mem_cons.1 hx with e | e
        · subst e; exact absurd hp hpa
        · exact filter_same_length p q h l he x e hp

/-- what three of a list make, at rising places -/
def Made (f : Nat → Nat → Nat → Nat) (l : List Nat) (x : Nat) : Prop := ∃ i j k, k < j ∧ j < i ∧ i < l.length ∧ x = f (l.getD i 0) (l.getD j 0) (l.getD k 0)
instance (f : Nat → Nat → Nat → Nat) (l : List Nat) (x : Nat) : Decidable (Made f l x) :=
  decidable_of_iff (∃ i, i < l.length ∧ ∃ j, j < i ∧ ∃ k, k < j ∧ x = f (l.getD i 0) (l.getD j 0) (l.getD k 0))
    ⟨fun ⟨i, hi, j, hj, k, hk, e⟩ => ⟨i, j, k, hk, hj, hi, e⟩, fun ⟨i, j, k, hk, hj, hi, e⟩ => ⟨i, hi, j, hj, k, hk, e⟩⟩
/-- what any three of a list make -/
def Any3 (f : Nat → Nat → Nat → Nat) (l : List Nat) (x : Nat) : Prop := ∃ i j k, i < l.length ∧ j < l.length ∧ k < l.length ∧ x = f (l.getD i 0) (l.getD j 0) (l.getD k 0)
/-- the list and what three different ones of it make, ascending -/
def joined (f : Nat → Nat → Nat → Nat) (l : List Nat) : List Nat := (List.range 16).filter fun x => l.contains x || decide (Made f l x)

/-- What a join of three must be like. -/
structure Join (f : Nat → Nat → Nat → Nat) : Prop where
  lt : ∀ x y z, x < 16 → y < 16 → z < 16 → f x y z < 16
  s1 : ∀ x y z, f x y z = f y x z
  s2 : ∀ x y z, f x y z = f x z y
  id : ∀ x z, f x x z = x ∨ f x x z = z

theorem mem_getD {l : List Nat} {i : Nat} (hi : i < l.length) : l.getD i 0 ∈ l := by
  rw [List.getD_eq_getElem?_getD, List.getElem?_eq_getElem hi]; exact List.getElem_mem hi
theorem getD_of_mem {l : List Nat} {x : Nat} (h : x ∈ l) : ∃ i, i < l.length ∧ l.getD i 0 = x := by
  obtain ⟨i, hi, e⟩ := List.getElem_of_mem h
  exact ⟨i, hi, by rw [List.getD_eq_getElem?_getD, List.getElem?_eq_getElem hi]; exact e⟩

theorem made_iff_any {f : Nat → Nat → Nat → Nat} (J : Join f) (l : List Nat) (x : Nat) : (x ∈ l ∨ Made f l x) ↔ Any3 f l x := by
  obtain ⟨-, hs1, hs2, hid⟩ := J
  constructor
  · rintro (h | ⟨i, j, k, hk, hj, hi, rfl⟩)
    · obtain ⟨i, hi, rfl⟩ := getD_of_mem h
      refine ⟨i, i, i, hi, hi, hi, ?_⟩
      rcases hid (l.getD i 0) (l.getD i 0) with e | e <;> exact e.symm
    · exact ⟨i, j, k, hi, by omega, by omega, rfl⟩
  · rintro ⟨i, j, k, hi, hj, hk, rfl⟩
    by_cases h1 : i = j
    · subst h1; left; rcases hid (l.getD i 0) (l.getD k 0) with e | e <;> rw [e]
      · exact mem_getD hi
      · exact mem_getD hk
    · by_cases h2 : j = k
      · subst h2; left
        rw [hs1, hs2]
        rcases hid (l.getD j 0) (l.getD i 0) with e | e <;> rw [e]
        · exact mem_getD hj
        · exact mem_getD hi
      · by_cases h3 : i = k
        · subst h3; left
          rw [hs2]
          rcases hid (l.getD i 0) (l.getD j 0) with e | e <;> rw [e]
          · exact mem_getD hi
          · exact mem_getD hj
        · right
          rcases Nat.lt_or_gt_of_ne h1 with a | a <;> rcases Nat.lt_or_gt_of_ne h2 with b | b <;> rcases Nat.lt_or_gt_of_ne h3 with c | c
          · exact ⟨k, j, i, a, b, hk, by rw [hs2, hs1 (l.getD i 0), hs2]⟩
          · omega
          · exact ⟨j, k, i, c, b, hj, by rw [hs1, hs2]⟩
          · exact ⟨j, i, k, c, a, hj, by rw [hs1]⟩
          · exact ⟨k, i, j, a, c, hk, by rw [hs2, hs1 (l.getD i 0)]⟩
          · exact ⟨i, k, j, b, c, hi, by rw [hs2]⟩
          · omega
          · exact ⟨i, j, k, b, a, hi, rfl⟩

theorem mem_joined {f : Nat → Nat → Nat → Nat} (J : Join f) (l : List Nat) (hn : ∀ x ∈ l, x < 16) (x : Nat) : x ∈ joined f l ↔ Any3 f l x := by
  rw [← made_iff_any J]
  unfold joined
  simp only [List.mem_filter, List.mem_range, Bool.or_eq_true, List.contains_iff_mem, decide_eq_true_eq]
  refine ⟨fun h => h.2, fun h => ⟨?_, h⟩⟩
  obtain ⟨i, j, k, hi, hj, hk, rfl⟩ := (made_iff_any J l x).1 h
  exact J.lt _ _ _ (hn _ (mem_getD hi)) (hn _ (mem_getD hj)) (hn _ (mem_getD hk))
theorem joined_asc (f : Nat → Nat → Nat → Nat) (l : List Nat) : Asc (joined f l) := asc_filter (asc_range 16) _
theorem sub_joined (f : Nat → Nat → Nat → Nat) (l : List Nat) (hn : ∀ x ∈ l, x < 16) : ∀ x ∈ l, x ∈ joined f l := fun x hx => by
  unfold joined
  simp only [List.mem_filter, List.mem_range, Bool.or_eq_true, List.contains_iff_mem]
  exact ⟨hn x hx, .inl hx⟩

theorem joined_len_iff {f : Nat → Nat → Nat → Nat} (J : Join f) (l : List Nat) (h : Asc l) (hn : ∀ x ∈ l, x < 16) :
    (joined f l).length = l.length ↔ ∀ x, Any3 f l x → x ∈ l := by
  have hl := asc_range_filter l 16 h hn
  constructor
  · intro he x hx
    have hm := (mem_joined J l hn x).2 hx
    have hx16 : x < 16 := List.mem_range.1 (List.mem_filter.1 hm).1
    have h2 := filter_same_length (fun x => l.contains x || decide (Made f l x)) (fun x => l.contains x) (fun x (hx : l.contains x = true) => show (l.contains x || decide (Made f l x)) = true by rw [hx]; rfl) (List.range 16)
      (by rw [hl]; exact he) x (List.mem_range.2 hx16) (List.mem_filter.1 hm).2
    exact List.contains_iff_mem.1 h2
  · intro hc
    rw [asc_ext (joined f l) l (joined_asc f l) h (fun x => ⟨fun hx => hc x ((mem_joined J l hn x).1 hx), sub_joined f l hn x⟩)]

def med (x y z : Nat) : Nat := x &&& y ||| x &&& z ||| y &&& z
def par (x y z : Nat) : Nat := x ^^^ y ^^^ z
theorem join_med : Join med where
  lt := fun _ _ _ _ hy hz => Nat.or_lt_two_pow (n := 4) (Nat.or_lt_two_pow (n := 4) (Nat.and_lt_two_pow _ hy) (Nat.and_lt_two_pow _ hz)) (Nat.and_lt_two_pow _ hz)
  s1 := fun x y z => by unfold med; rw [Nat.and_comm x y, Nat.or_assoc, Nat.or_comm (x &&& z), Nat.or_assoc]
  s2 := fun x y z => by unfold med; rw [Nat.or_comm (x &&& y), Nat.and_comm y z]
  id := fun x z => by
    left
    unfold med
    apply Nat.eq_of_testBit_eq
    intro i
    simp only [Nat.testBit_or, Nat.testBit_and]
    cases x.testBit i <;> cases z.testBit i <;> rfl
theorem join_par : Join par where
  lt := fun _ _ _ hx hy hz => Nat.xor_lt_two_pow (n := 4) (Nat.xor_lt_two_pow (n := 4) hx hy) hz
  s1 := fun x y z => by unfold par; rw [Nat.xor_comm x y]
  s2 := fun x y z => by unfold par; rw [Nat.xor_assoc, Nat.xor_comm y z, Nat.xor_assoc]
  id := fun x z => by right; unfold par; simp

/-- how many answers are 1 -/
def wt (x : Nat) : Nat := x % 2 + x / 2 % 2 + x / 4 % 2 + x / 8 % 2
theorem wt_step (x : Nat) (h : x < 16) : wt x = x % 2 + wt (x / 2) := by unfold wt; omega
theorem wt_zero : wt 0 = 0 := rfl
theorem wt_le (x : Nat) : wt x ≤ 4 := by unfold wt; omega
end Go.Proofs.Ytbmodiobgkmngaa
