/- Texts in pieces: mathematics; nothing of the program. -/
import Derived.Test.YtcnoipghepjodaaDoorTxtI
import Derived.Lib.Split
import Derived.Lib.CountLaws
import Derived.Lib.CutLaws
import Derived.Lib.IndexBytes
import Derived.Lib.SplitLaws
namespace Go.Proofs.YtcnoipghepjodaaDoor

/-- the pieces of a text between the bytes of a kind -/
def spl (c : UInt8) : List UInt8 → List (List UInt8)
  | [] => [[]]
  | b :: r => if b = c then [] :: spl c r else match spl c r with
    | [] => [[b]]
    | p :: ps => (b :: p) :: ps
theorem spl_ne (c : UInt8) : ∀ l, spl c l ≠ []
  | [] => by simp [spl]
  | b :: r => by
    unfold spl
    split
    · simp
    · split <;> simp
theorem spl_at (c : UInt8) (l : List UInt8) : spl c (c :: l) = [] :: spl c l := by rw [spl, if_pos rfl]
theorem spl_cons {c b : UInt8} (h : b ≠ c) (l : List UInt8) : ∃ p ps, spl c l = p :: ps ∧ spl c (b :: l) = (b :: p) :: ps := by
  obtain ⟨p, ps, e⟩ := List.exists_cons_of_ne_nil (spl_ne c l)
  exact ⟨p, ps, e, by rw [spl, if_neg h, e]⟩
theorem spl_none {c : UInt8} : ∀ {l : List UInt8}, ¬ c ∈ l → spl c l = [l]
  | [], _ => rfl
  | b :: r, h => by
    have hb : b ≠ c := fun e => h (by simp [e])
    obtain ⟨p, ps, e1, e2⟩ := spl_cons hb r
    rw [spl_none (fun hm => h (by simp [hm]))] at e1
    cases e1
    exact e2
theorem spl_app {c : UInt8} (b : List UInt8) : ∀ {a : List UInt8}, ¬ c ∈ a → spl c (a ++ c :: b) = a :: spl c b
  | [], _ => spl_at c b
  | x :: a, h => by
    have hx : x ≠ c := fun e => h (by simp [e])
    obtain ⟨p, ps, e1, e2⟩ := spl_cons hx (a ++ c :: b)
    rw [spl_app b (fun hm => h (by simp [hm]))] at e1
    cases e1
    exact e2
theorem join_cc (x y sep : List UInt8) (r : List (List UInt8)) : Lib.join (x :: y :: r) sep = x ++ sep ++ Lib.join (y :: r) sep := by
  rw [Lib.join_cons, Lib.join_cons]
  simp [Lib.joinTail]
theorem join_spl (c : UInt8) : ∀ l, Lib.join (spl c l) [c] = l
  | [] => by simp [spl, Lib.join_one]
  | b :: r => by
    have ih := join_spl c r
    by_cases h : b = c
    · subst h
      obtain ⟨p, ps, e⟩ := List.exists_cons_of_ne_nil (spl_ne b r)
      rw [spl_at, e, join_cc, ← e, ih]
      rfl
    · obtain ⟨p, ps, e1, e2⟩ := spl_cons h r
      rw [e1] at ih
      rw [e2]
      rw [Lib.join_cons] at ih ⊢
      rw [List.cons_append, ih]
theorem spl_join {c : UInt8} : ∀ ls : List (List UInt8), ls ≠ [] → (∀ l ∈ ls, ¬ c ∈ l) → spl c (Lib.join ls [c]) = ls
  | [], h, _ => absurd rfl h
  | [x], _, h => by rw [Lib.join_one]; exact spl_none (h x (by simp))
  | x :: y :: r, _, h => by
    rw [join_cc, List.append_assoc]
    show spl c (x ++ c :: Lib.join (y :: r) [c]) = _
    rw [spl_app _ (h x (by simp)), spl_join (y :: r) (by simp) (fun l hl => h l (by simp only [List.mem_cons] at hl ⊢; exact .inr hl))]
/-- where a byte is first -/
theorem idx_cases (c : UInt8) : ∀ l : List UInt8, (Lib.indexByte l c = -1 ∧ ¬ c ∈ l) ∨ ∃ a b, l = a ++ c :: b ∧ ¬ c ∈ a ∧ Lib.indexByte l c = (a.length : Int)
  | [] => .inl ⟨rfl, by simp⟩
  | x :: l => by
    by_cases h : x = c
    · subst h
      exact .inr ⟨[], l, rfl, by simp, by simp [Lib.indexByte]⟩
    · have hb : (x == c) = false := by simpa using h
      rcases idx_cases c l with ⟨e, hn⟩ | ⟨a, b, rfl, hn, e⟩
      · refine .inl ⟨?_, ?_⟩
        · unfold Lib.indexByte; rw [hb, e]; rfl
        · simp only [List.mem_cons, not_or]; exact ⟨fun e => h e.symm, hn⟩
      · refine .inr ⟨x :: a, b, rfl, ?_, ?_⟩
        · simp only [List.mem_cons, not_or]; exact ⟨fun e => h e.symm, hn⟩
        · unfold Lib.indexByte
          rw [hb, e, if_neg (by decide), if_neg (by simp only [beq_iff_eq]; omega), List.length_cons]
          omega
/-- strings.Split as the library tells it -/
theorem split_spl (c : UInt8) : ∀ (k : Nat) (s : ByteArray), s.size ≤ k → (Lib.splitB ⟨#[c]⟩ 0 (Lib.countB s ⟨#[c]⟩) s).map (·.data.toList) = spl c s.data.toList := by
  intro k
  induction k with
  | zero =>
    intro s hs
    have hi : Lib.indexB s ⟨#[c]⟩ = -1 := by
      rcases Lib.indexB_cases s ⟨#[c]⟩ with e | ⟨i, e, h⟩
      · exact e
      · have : (⟨#[c]⟩ : ByteArray).size = 1 := rfl
        omega
    rw [Lib.splitB_miss _ _ _ _ hi]
    have h0 : s.data.toList = [] := List.length_eq_zero_iff.1 (by rw [Array.length_toList]; have : s.size = s.data.size := rfl; omega)
    rw [List.map_singleton, h0]
    rfl
  | succ k ih =>
    intro s hs
    have hx : Lib.indexB s ⟨#[c]⟩ = Lib.indexByte s.data.toList c := Lib.index_one _ _
    rcases idx_cases c s.data.toList with ⟨e, hn⟩ | ⟨a, b, hl, hn, e⟩
    · rw [Lib.splitB_miss _ _ _ _ (hx.trans e), List.map_singleton, spl_none hn]
    · have hi := hx.trans e
      have hlen : s.size = a.length + 1 + b.length := by
        have : s.size = s.data.toList.length := by rw [Array.length_toList]; rfl
        rw [this, hl]; simp; omega
      have hd : (s.extract (a.length + 1) s.size).data.toList = b := by
        simp only [ByteArray.data_extract, Array.toList_extract]
        simp [List.extract, hlen]
        rw [hl]
        simp
      have ht : (s.extract 0 (a.length + 0)).data.toList = a := by
        simp only [ByteArray.data_extract, Array.toList_extract]
        simp [List.extract]
        rw [hl]
        simp
      have h1 : (⟨#[c]⟩ : ByteArray).size = 1 := rfl
      rw [Lib.countB_hit s ⟨#[c]⟩ a.length (by rw [h1]; exact Nat.le_refl _) hi, Nat.add_comm 1, Lib.splitB_hit _ _ _ _ _ hi, List.map_cons, ht, h1]
      have := ih (s.extract (a.length + 1) s.size) (by
        have : (s.extract (a.length + 1) s.size).size = b.length := by
          have h2 : (s.extract (a.length + 1) s.size).size = (s.extract (a.length + 1) s.size).data.toList.length := by rw [Array.length_toList]; rfl
          rw [h2, hd]
        omega)
      rw [this, hd, hl, spl_app b hn]
/-- strings.Cut as the library tells it -/
theorem cut_spl (c : UInt8) (l : List UInt8) : (¬ c ∈ l ∧ Lib.cut l [c] = (l, [], false)) ∨ ∃ a b, l = a ++ c :: b ∧ ¬ c ∈ a ∧ Lib.cut l [c] = (a, b, true) := by
  rcases idx_cases c l with ⟨e, hn⟩ | ⟨a, b, rfl, hn, e⟩
  · refine .inl ⟨hn, ?_⟩
    unfold Lib.cut
    rw [Lib.index_one, e, if_neg (by decide)]
  · refine .inr ⟨a, b, rfl, hn, ?_⟩
    unfold Lib.cut
    rw [Lib.index_one, e, if_pos (by omega)]
    simp
end Go.Proofs.YtcnoipghepjodaaDoor
