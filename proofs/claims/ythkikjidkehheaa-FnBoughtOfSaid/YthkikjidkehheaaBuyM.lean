/- Names that are bought: the price, the scan, the purses. Mathematics; nothing of the program. -/
import Derived.Test.YthkikjidkehheaaSrtS
namespace Go.Proofs.Ythkikjidkehheaa

/-- what each pays at most, and how many pay it -/
def priceL : Nat → List Nat → Option (Nat × Nat)
  | _, [] => none
  | left, y :: ys => if left ≤ y * (ys.length + 1) then some (left, ys.length + 1) else priceL (left - y) ys
def priceN (ms : List Nat) (cost : Nat) : Option (Nat × Nat) := priceL cost (srtN ms)
theorem priceL_in : ∀ (l : List Nat) (left a b : Nat), priceL left l = some (a, b) → a ≤ left ∧ 1 ≤ b ∧ b ≤ l.length
  | [], _, _, _, h => by cases h
  | y :: ys, left, a, b, h => by
    unfold priceL at h
    split at h
    · cases h; simp
    · have := priceL_in ys (left - y) a b h
      simp only [List.length_cons]
      omega
theorem priceL_drop {so : List Nat} {i : Nat} (h : i < so.length) (left : Nat) : priceL left (so.drop i) = if left ≤ so.getD i 0 * (so.length - i) then some (left, so.length - i) else priceL (left - so.getD i 0) (so.drop (i + 1)) := by
  rw [List.drop_eq_getElem_cons h, priceL, List.length_drop, show so.length - (i + 1) + 1 = so.length - i from by omega]
  rw [List.getD_eq_getElem?_getD, List.getElem?_eq_getElem h]
  rfl
/-- the purses of those of the first k ballots that approve of a name -/
def mineK (bs : List Int) (ps : List Nat) (x : Nat) : Nat → List Nat
  | 0 => []
  | k + 1 => if bitN (bs.getD k 0).toNat x = 1 then mineK bs ps x k ++ [ps.getD k 0] else mineK bs ps x k
theorem mineK_yes {bs : List Int} {ps : List Nat} {x k : Nat} (h : bitN (bs.getD k 0).toNat x = 1) : mineK bs ps x (k + 1) = mineK bs ps x k ++ [ps.getD k 0] := if_pos h
theorem mineK_no {bs : List Int} {ps : List Nat} {x k : Nat} (h : ¬ bitN (bs.getD k 0).toNat x = 1) : mineK bs ps x (k + 1) = mineK bs ps x k := if_neg h
theorem mineK_len (bs : List Int) (ps : List Nat) (x : Nat) : ∀ k, (mineK bs ps x k).length = supK bs x k
  | 0 => rfl
  | k + 1 => by
    have hb := bitN_le (bs.getD k 0).toNat x
    by_cases h : bitN (bs.getD k 0).toNat x = 1
    · rw [mineK_yes h, List.length_append, mineK_len bs ps x k, supK, h]; rfl
    · rw [mineK_no h, mineK_len bs ps x k, supK]; omega
theorem mineK_in {bs : List Int} {ps : List Nat} {x B : Nat} (h : ∀ i, ps.getD i 0 ≤ B) : ∀ k, ∀ y ∈ mineK bs ps x k, y ≤ B
  | 0, y, hy => by cases hy
  | k + 1, y, hy => by
    by_cases hb : bitN (bs.getD k 0).toNat x = 1
    · rw [mineK_yes hb] at hy
      rcases List.mem_append.1 hy with hy | hy
      · exact mineK_in h k y hy
      · simp only [List.mem_singleton] at hy
        rw [hy]; exact h k
    · rw [mineK_no hb] at hy
      exact mineK_in h k y hy
theorem all_getD {l : List Nat} {B : Nat} (h : ∀ y ∈ l, y ≤ B) (i : Nat) : l.getD i 0 ≤ B := by
  rcases Nat.lt_or_ge i l.length with hi | hi
  · rw [List.getD_eq_getElem?_getD, List.getElem?_eq_getElem hi]; exact h _ (List.getElem_mem hi)
  · rw [List.getD_eq_getElem?_getD, List.getElem?_eq_none hi]; exact Nat.zero_le _
/-- the share of a name, if it can be bought -/
def shB (bs : List Int) (ps : List Nat) (den x : Nat) : Option (Nat × Nat) := priceN (mineK bs ps x bs.length) (bs.length * den)
theorem shB_in {bs : List Int} {ps : List Nat} {den x a b : Nat} (h : shB bs ps den x = some (a, b)) : a ≤ bs.length * den ∧ 1 ≤ b ∧ b ≤ supN bs x := by
  have := priceL_in _ _ _ _ h
  rw [srt_len, mineK_len] at this
  exact this
/-- a name that can be bought is the one to be bought so far -/
def takesB (sh : Nat → Option (Nat × Nat)) (ns : List Nat) (x : Nat) (r : Int × Nat × Nat) : Bool := match sh x with
  | none => false
  | some (a, b) => !(ns.contains x) && (decide (r.1 < 0) || decide (a * r.2.2 < r.2.1 * b))
def scanB (sh : Nat → Option (Nat × Nat)) (ns : List Nat) : Nat → Int × Nat × Nat
  | 0 => (-1, 0, 1)
  | x + 1 => if takesB sh ns x (scanB sh ns x) = true then ((x : Int), (sh x).getD (0, 1)) else scanB sh ns x
theorem scanB_no {sh : Nat → Option (Nat × Nat)} {ns : List Nat} {x : Nat} (h : takesB sh ns x (scanB sh ns x) = false) : scanB sh ns (x + 1) = scanB sh ns x := by rw [scanB, if_neg (by rw [h]; decide)]
theorem scanB_yes {sh : Nat → Option (Nat × Nat)} {ns : List Nat} {x a b : Nat} (h : takesB sh ns x (scanB sh ns x) = true) (hs : sh x = some (a, b)) : scanB sh ns (x + 1) = ((x : Int), a, b) := by rw [scanB, if_pos h, hs]; rfl
theorem takesB_in {sh : Nat → Option (Nat × Nat)} {ns : List Nat} {x : Nat} {r : Int × Nat × Nat} (h : x ∈ ns) : takesB sh ns x r = false := by
  unfold takesB
  split
  · rfl
  · rw [List.contains_iff_mem.2 h]; rfl
theorem takesB_none {sh : Nat → Option (Nat × Nat)} {ns : List Nat} {x : Nat} {r : Int × Nat × Nat} (h : sh x = none) : takesB sh ns x r = false := by unfold takesB; rw [h]
theorem takesB_new {sh : Nat → Option (Nat × Nat)} {ns : List Nat} {x a b : Nat} {r : Int × Nat × Nat} (h : ¬ x ∈ ns) (hs : sh x = some (a, b)) (h3 : r.1 < 0) : takesB sh ns x r = true := by
  unfold takesB; rw [hs]; simp only; rw [decide_eq_true h3]; simp [h]
theorem takesB_less {sh : Nat → Option (Nat × Nat)} {ns : List Nat} {x a b : Nat} {r : Int × Nat × Nat} (h : ¬ x ∈ ns) (hs : sh x = some (a, b)) (h3 : ¬ r.1 < 0) : takesB sh ns x r = decide (a * r.2.2 < r.2.1 * b) := by
  unfold takesB; rw [hs]; simp only; rw [decide_eq_false h3]; simp [h]
theorem scanB_ok {sh : Nat → Option (Nat × Nat)} {ns : List Nat} : ∀ x, (scanB sh ns x).1 = -1 ∧ scanB sh ns x = (-1, 0, 1) ∨ ∃ q a b, scanB sh ns x = (((q : Nat) : Int), a, b) ∧ q < x ∧ ¬ q ∈ ns ∧ sh q = some (a, b)
  | 0 => .inl ⟨rfl, rfl⟩
  | x + 1 => by
    by_cases h : takesB sh ns x (scanB sh ns x) = true
    · have h0 := h
      unfold takesB at h
      split at h
      · cases h
      · rename_i a b hs
        rw [scanB_yes h0 hs]
        refine .inr ⟨x, a, b, rfl, by omega, ?_, hs⟩
        simp at h; exact h.1
    · rw [scanB_no (by simpa using h)]
      rcases scanB_ok (sh := sh) (ns := ns) x with e | ⟨q, a, b, e, h1, h2⟩
      · exact .inl e
      · exact .inr ⟨q, a, b, e, by omega, h2⟩
/-- the purses when a name is paid -/
def payUp (bs : List Int) (ps : List Nat) (a top bot : Nat) : List Nat := (List.range bs.length).map fun i => if bitN (bs.getD i 0).toNat a = 1 then ps.getD i 0 * bot - top else ps.getD i 0 * bot
theorem payUp_len (bs : List Int) (ps : List Nat) (a top bot : Nat) : (payUp bs ps a top bot).length = bs.length := by simp [payUp]
theorem payUp_at {bs : List Int} {ps : List Nat} {a top bot i : Nat} (h : i < bs.length) : (payUp bs ps a top bot).getD i 0 = if bitN (bs.getD i 0).toNat a = 1 then ps.getD i 0 * bot - top else ps.getD i 0 * bot := by
  unfold payUp
  rw [List.getD_eq_getElem?_getD, List.getElem?_map, List.getElem?_range h]
  rfl
def stepB (c : Nat) (bs : List Int) (s : List Nat × List Nat × Nat) : List Nat × List Nat × Nat :=
  let r := scanB (shB bs s.2.1 s.2.2) s.1 c
  if r.1 < 0 then s else (s.1 ++ [r.1.toNat], payUp bs s.2.1 r.1.toNat r.2.1 r.2.2, s.2.2 * r.2.2)
def runB (c : Nat) (bs : List Int) (k : Nat) : Nat → List Nat × List Nat × Nat
  | 0 => ([], List.replicate bs.length k, 1)
  | j + 1 => stepB c bs (runB c bs k j)
theorem stepB_none {c : Nat} {bs : List Int} {ns ps : List Nat} {den : Nat} {r : Int × Nat × Nat} (h : scanB (shB bs ps den) ns c = r) (hn : r.1 < 0) : stepB c bs (ns, ps, den) = (ns, ps, den) := by
  subst h
  unfold stepB
  simp only
  rw [if_pos hn]
theorem stepB_some {c : Nat} {bs : List Int} {ns ps : List Nat} {den q t b : Nat} (h : scanB (shB bs ps den) ns c = ((q : Int), t, b)) : stepB c bs (ns, ps, den) = (ns ++ [q], payUp bs ps q t b, den * b) := by
  unfold stepB
  simp only
  rw [h, if_neg (by simp only; omega)]
  simp only [Int.toNat_natCast]
/-- where nothing more can be bought, it stays so -/
theorem runB_stop {c : Nat} {bs : List Int} {k j : Nat} (h : stepB c bs (runB c bs k j) = runB c bs k j) : ∀ d, runB c bs k (j + d) = runB c bs k j
  | 0 => rfl
  | d + 1 => by
    show stepB c bs (runB c bs k (j + d)) = _
    rw [runB_stop h d, h]
/-- how great the numbers of a state are -/
structure ByOk (c : Nat) (bs : List Int) (k j : Nat) (s : List Nat × List Nat × Nat) : Prop where
  ns : s.1.length ≤ j
  nd : s.1.Nodup
  lt : ∀ x ∈ s.1, x < c
  ps : s.2.1.length = bs.length
  d1 : 1 ≤ s.2.2
  d6 : s.2.2 ≤ 6 ^ s.1.length
  pb : ∀ i, s.2.1.getD i 0 ≤ k * s.2.2
theorem nodup_most {c : Nat} : ∀ {ns : List Nat}, ns.Nodup → (∀ x ∈ ns, x < c) → ns.length ≤ c := by
  induction c with
  | zero =>
    intro ns _ h
    cases ns with
    | nil => exact Nat.le_refl _
    | cons x xs => exact absurd (h x (by simp)) (by omega)
  | succ c ih =>
    intro ns hd h
    by_cases hc : c ∈ ns
    · have h1 := ih (ns := ns.erase c) (hd.erase c) (fun x hx => by
        have h2 := h x (List.mem_of_mem_erase hx)
        have h3 : x ≠ c := fun e => by subst e; exact (List.Nodup.not_mem_erase hd) hx
        omega)
      rw [List.length_erase_of_mem hc] at h1
      omega
    · exact Nat.le_succ_of_le (ih hd (fun x hx => by
        have h2 := h x hx
        have h3 : x ≠ c := fun e => hc (e ▸ hx)
        omega))
theorem byOk_step {c : Nat} {bs : List Int} {k j : Nat} {s : List Nat × List Nat × Nat} (h6 : bs.length ≤ 6) (h : ByOk c bs k j s) : ByOk c bs k (j + 1) (stepB c bs s) := by
  obtain ⟨h1, h2, h3, h4, h5, h7, h8⟩ := h
  obtain ⟨ns, ps, den⟩ := s
  simp only at h1 h2 h3 h4 h5 h7 h8
  rcases scanB_ok (sh := shB bs ps den) (ns := ns) c with ⟨e0, e⟩ | ⟨q, a, b, e, hq, hn, hs⟩
  · rw [stepB_none rfl (by rw [e0]; decide)]
    exact ⟨by simp only; omega, h2, h3, h4, h5, h7, h8⟩
  · rw [stepB_some e]
    have hb := shB_in hs
    have hsl := supN_le bs q
    refine ⟨by simp only [List.length_append, List.length_cons, List.length_nil]; omega, ?_, fun x hx => ?_, payUp_len _ _ _ _ _, ?_, ?_, fun i => ?_⟩
    · rw [List.nodup_append]
      exact ⟨h2, by simp, fun x hx y hy => by simp at hy; subst hy; intro e; subst e; exact hn hx⟩
    · rcases List.mem_append.1 hx with hx | hx
      · exact h3 x hx
      · simp at hx; omega
    · exact Nat.mul_pos (by omega) (by omega)
    · simp only [List.length_append, List.length_cons, List.length_nil]
      rw [Nat.zero_add, Nat.pow_succ]; exact Nat.mul_le_mul h7 (by omega)
    · simp only
      rcases Nat.lt_or_ge i bs.length with hi | hi
      · rw [payUp_at hi]
        have h9 := Nat.mul_le_mul_right b (h8 i)
        rw [Nat.mul_assoc] at h9
        split <;> omega
      · rw [List.getD_eq_getElem?_getD, List.getElem?_eq_none (by rw [payUp_len]; exact hi)]
        exact Nat.zero_le _
theorem runB_ok {c : Nat} {bs : List Int} {k : Nat} (h6 : bs.length ≤ 6) : ∀ j, ByOk c bs k j (runB c bs k j)
  | 0 => ⟨Nat.le_refl _, List.nodup_nil, fun x hx => absurd hx (by simp [runB]), by simp [runB], Nat.le_refl _, by simp [runB], fun i => by
    simp only [runB]
    rw [List.getD_eq_getElem?_getD]
    (rcases Nat.lt_or_ge i bs.length with hi | hi)
    · simp [hi]
    · rw [List.getElem?_eq_none (by simpa using hi)]; simp⟩
  | j + 1 => byOk_step h6 (runB_ok h6 j)
end Go.Proofs.Ythkikjidkehheaa
