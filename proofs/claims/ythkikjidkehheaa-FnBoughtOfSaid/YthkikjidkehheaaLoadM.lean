/- Loads: what each next name costs, and how the loads go on. Mathematics; nothing of the program. -/
import Derived.Test.YthkikjidkehheaaApp
namespace Go.Proofs.Ythkikjidkehheaa

/-- the loads of those of the first k ballots that approve of a name -/
def sumK (bs : List Int) (ls : List Nat) (x : Nat) : Nat → Nat
  | 0 => 0
  | k + 1 => sumK bs ls x k + bitN (bs.getD k 0).toNat x * ls.getD k 0
def sumN (bs : List Int) (ls : List Nat) (x : Nat) : Nat := sumK bs ls x bs.length
def topN (bs : List Int) (ls : List Nat) (den x : Nat) : Nat := den + sumN bs ls x
theorem sumK_le {bs : List Int} {ls : List Nat} {x B : Nat} (h : ∀ i, ls.getD i 0 ≤ B) : ∀ k, sumK bs ls x k ≤ k * B
  | 0 => by simp [sumK]
  | k + 1 => by
    have h1 := sumK_le (bs := bs) (x := x) h k
    have h2 := h k
    rcases (show bitN (bs.getD k 0).toNat x = 0 ∨ bitN (bs.getD k 0).toNat x = 1 from by have := bitN_le (bs.getD k 0).toNat x; omega) with e | e
    · rw [sumK, e, Nat.add_mul]; omega
    · rw [sumK, e, Nat.add_mul]; omega
/-- a name is the one to be taken so far -/
def fitsL (bs : List Int) (ls : List Nat) (den : Nat) (ns : List Nat) (x : Nat) (r : Int × Nat × Nat) : Bool :=
  !(ns.contains x) && (decide (supN bs x ≠ 0) && (decide (r.1 < 0) || decide (topN bs ls den x * r.2.2 < r.2.1 * supN bs x)))
/-- the name that loads the least of the first ones, and its share -/
def scanL (bs : List Int) (ls : List Nat) (den : Nat) (ns : List Nat) : Nat → Int × Nat × Nat
  | 0 => (-1, 0, 1)
  | x + 1 => if fitsL bs ls den ns x (scanL bs ls den ns x) = true then ((x : Int), topN bs ls den x, supN bs x) else scanL bs ls den ns x
theorem scanL_yes {bs : List Int} {ls : List Nat} {den : Nat} {ns : List Nat} {x : Nat} (h : fitsL bs ls den ns x (scanL bs ls den ns x) = true) : scanL bs ls den ns (x + 1) = ((x : Int), topN bs ls den x, supN bs x) := by rw [scanL, if_pos h]
theorem scanL_no {bs : List Int} {ls : List Nat} {den : Nat} {ns : List Nat} {x : Nat} (h : fitsL bs ls den ns x (scanL bs ls den ns x) = false) : scanL bs ls den ns (x + 1) = scanL bs ls den ns x := by rw [scanL, if_neg (by rw [h]; decide)]
/-- what the scanL tells of the name that it has found -/
theorem scanL_ok {bs : List Int} {ls : List Nat} {den : Nat} {ns : List Nat} : ∀ x, (scanL bs ls den ns x).1 = -1 ∧ scanL bs ls den ns x = (-1, 0, 1) ∨
    ∃ a, scanL bs ls den ns x = (((a : Nat) : Int), topN bs ls den a, supN bs a) ∧ a < x ∧ ¬ a ∈ ns ∧ supN bs a ≠ 0
  | 0 => .inl ⟨rfl, rfl⟩
  | x + 1 => by
    by_cases h : fitsL bs ls den ns x (scanL bs ls den ns x) = true
    · rw [scanL_yes h]
      refine .inr ⟨x, rfl, by omega, ?_, ?_⟩
      · unfold fitsL at h; simp at h; exact h.1
      · unfold fitsL at h; simp at h; exact h.2.1
    · rw [scanL_no (by simpa using h)]
      rcases scanL_ok (bs := bs) (ls := ls) (den := den) (ns := ns) x with e | ⟨a, e, h1, h2⟩
      · exact .inl e
      · exact .inr ⟨a, e, by omega, h2⟩
/-- the first name that is not there -/
def firstFree (ns : List Nat) : Nat → Nat → Nat
  | 0, x => x
  | f + 1, x => if ns.contains x then firstFree ns f (x + 1) else x
def freeN (ns : List Nat) : Nat := firstFree ns ns.length 0
/-- the loads when a name is loaded -/
def loadUp (bs : List Int) (ls : List Nat) (a top bot : Nat) : List Nat := (List.range bs.length).map fun i => if bitN (bs.getD i 0).toNat a = 1 then top else ls.getD i 0 * bot
/-- one more name -/
def stepL (c : Nat) (bs : List Int) (s : List Nat × List Nat × Nat) : List Nat × List Nat × Nat :=
  let r := scanL bs s.2.1 s.2.2 s.1 c
  if r.1 < 0 then (s.1 ++ [freeN s.1], s.2.1, s.2.2) else (s.1 ++ [r.1.toNat], loadUp bs s.2.1 r.1.toNat r.2.1 r.2.2, s.2.2 * r.2.2)
def runL (c : Nat) (bs : List Int) : Nat → List Nat × List Nat × Nat
  | 0 => ([], List.replicate bs.length 0, 1)
  | j + 1 => stepL c bs (runL c bs j)
theorem loadUp_len (bs : List Int) (ls : List Nat) (a top bot : Nat) : (loadUp bs ls a top bot).length = bs.length := by simp [loadUp]
theorem loadUp_at {bs : List Int} {ls : List Nat} {a top bot i : Nat} (h : i < bs.length) : (loadUp bs ls a top bot).getD i 0 = if bitN (bs.getD i 0).toNat a = 1 then top else ls.getD i 0 * bot := by
  unfold loadUp
  rw [List.getD_eq_getElem?_getD, List.getElem?_map, List.getElem?_range h]
  rfl
theorem sumK_sup {bs : List Int} {ls : List Nat} {x B : Nat} (h : ∀ i, ls.getD i 0 ≤ B) : ∀ k, sumK bs ls x k ≤ supK bs x k * B
  | 0 => by simp [sumK]
  | k + 1 => by
    have h1 := sumK_sup (bs := bs) (x := x) h k
    have h2 := h k
    rw [supK, Nat.add_mul, sumK]
    have := Nat.mul_le_mul_left (bitN (bs.getD k 0).toNat x) h2
    omega
/-- how great the numbers of a state are when j names are there -/
structure LdOk (c : Nat) (bs : List Int) (j : Nat) (s : List Nat × List Nat × Nat) : Prop where
  ns : s.1.length = j
  nd : s.1.Nodup
  lt : ∀ x ∈ s.1, x < c
  ls : s.2.1.length = bs.length
  d1 : 1 ≤ s.2.2
  d6 : s.2.2 ≤ 6 ^ j
  lb : ∀ i, s.2.1.getD i 0 ≤ j * s.2.2
theorem firstFree_spec (ns : List Nat) : ∀ f x, (∀ y, y < x → y ∈ ns) → ∀ y, y < firstFree ns f x → y ∈ ns
  | 0, x, h, y, hy => h y hy
  | f + 1, x, h, y, hy => by
    unfold firstFree at hy
    split at hy
    · rename_i hc
      refine firstFree_spec ns f (x + 1) (fun z hz => ?_) y hy
      rcases Nat.lt_or_ge z x with hzx | hzx
      · exact h z hzx
      · obtain rfl : z = x := by omega
        exact List.contains_iff_mem.1 hc
    · exact h y hy
theorem firstFree_free (ns : List Nat) : ∀ f x, firstFree ns f x < x + f → ¬ firstFree ns f x ∈ ns
  | 0, x, h => by unfold firstFree at h; omega
  | f + 1, x, h => by
    unfold firstFree at h ⊢
    split
    · rename_i hc
      rw [if_pos hc] at h
      exact firstFree_free ns f (x + 1) (by omega)
    · rename_i hc
      exact fun e => hc (List.contains_iff_mem.2 e)
theorem firstFree_le (ns : List Nat) : ∀ f x, firstFree ns f x ≤ x + f
  | 0, x => Nat.le_refl _
  | f + 1, x => by
    unfold firstFree
    split
    · have := firstFree_le ns f (x + 1); omega
    · omega
theorem nodup_full {ns : List Nat} {n : Nat} (h : ∀ y, y < n → y ∈ ns) : n ≤ ns.length := by
  induction n generalizing ns with
  | zero => omega
  | succ n ih =>
    have hm := h n (by omega)
    have h1 := ih (ns := ns.erase n) (fun y hy => (List.mem_erase_of_ne (by omega)).2 (h y (by omega)))
    rw [List.length_erase_of_mem hm] at h1
    have := List.length_pos_of_mem hm
    omega
/-- the first free one is no more than those that are there, and free -/
theorem free_not (ns : List Nat) : ¬ freeN ns ∈ ns := by
  by_cases h : freeN ns < 0 + ns.length
  · exact firstFree_free ns ns.length 0 h
  · intro hm
    have h1 : ∀ y, y < freeN ns + 1 → y ∈ ns := fun y hy => by
      rcases Nat.lt_or_ge y (freeN ns) with h2 | h2
      · exact firstFree_spec ns ns.length 0 (fun z hz => by omega) y h2
      · obtain rfl : y = freeN ns := by omega
        exact hm
    have := nodup_full h1
    omega
theorem free_below (ns : List Nat) {y : Nat} (h : y < freeN ns) : y ∈ ns := firstFree_spec ns ns.length 0 (fun z hz => by omega) y h
theorem free_le (ns : List Nat) : freeN ns ≤ ns.length := by have := firstFree_le ns ns.length 0; unfold freeN; omega
theorem pow6 (j : Nat) (h : j ≤ 5) : 6 ^ j ≤ 7776 := Nat.le_trans (Nat.pow_le_pow_right (n := 6) (by omega) h) (by decide)
theorem step_ok {c : Nat} {bs : List Int} {j : Nat} {s : List Nat × List Nat × Nat} (h6 : bs.length ≤ 6) (hj : j < c) (h : LdOk c bs j s) : LdOk c bs (j + 1) (stepL c bs s) := by
  obtain ⟨h1, h2, h3, h4, h5, h7, h8⟩ := h
  obtain ⟨ns, ls, den⟩ := s
  simp only at h1 h2 h3 h4 h5 h7 h8
  unfold stepL
  have hfree := free_not ns
  have hfl := free_le ns
  have hmul : den ≤ 6 ^ (j + 1) := Nat.le_trans h7 (Nat.pow_le_pow_right (by omega) (by omega))
  rcases scanL_ok (bs := bs) (ls := ls) (den := den) (ns := ns) c with ⟨e, _⟩ | ⟨a, e, ha, hn, hs⟩
  · simp only [e]
    rw [if_pos (by decide)]
    exact ⟨by simp [h1], by
      rw [List.nodup_append]
      exact ⟨h2, by simp, fun x hx y hy => by simp at hy; subst hy; intro e; subst e; exact hfree hx⟩, fun x hx => by
      rcases List.mem_append.1 hx with hx | hx
      · exact h3 x hx
      · simp at hx; omega, h4, h5, hmul, fun i => Nat.le_trans (h8 i) (Nat.mul_le_mul_right _ (by omega))⟩
  · simp only [e]
    rw [if_neg (by omega), Int.toNat_natCast]
    have hsle := supN_le bs a
    have hden : den ≤ den * supN bs a := Nat.le_mul_of_pos_right _ (by omega)
    have htop : topN bs ls den a ≤ (j + 1) * (den * supN bs a) := by
      have h9 := sumK_sup (bs := bs) (x := a) h8 bs.length
      unfold topN
      have e1 : supK bs a bs.length * (j * den) = j * (den * supN bs a) := by unfold supN; rw [Nat.mul_comm, Nat.mul_assoc]
      rw [e1] at h9
      rw [Nat.add_mul]
      unfold sumN
      omega
    refine ⟨by simp [h1], ?_, fun x hx => ?_, loadUp_len _ _ _ _ _, ?_, ?_, fun i => ?_⟩
    · rw [List.nodup_append]
      exact ⟨h2, by simp, fun x hx y hy => by simp at hy; subst hy; intro e; subst e; exact hn hx⟩
    · rcases List.mem_append.1 hx with hx | hx
      · exact h3 x hx
      · simp at hx; omega
    · exact Nat.mul_pos (by omega) (by omega)
    · rw [Nat.pow_succ]; exact Nat.mul_le_mul h7 (by omega)
    · rcases Nat.lt_or_ge i bs.length with hi | hi
      · rw [loadUp_at hi]
        split
        · exact htop
        · have h9 := Nat.mul_le_mul_right (supN bs a) (h8 i)
          rw [Nat.mul_assoc] at h9
          show ls.getD i 0 * supN bs a ≤ (j + 1) * (den * supN bs a)
          rw [Nat.add_mul]
          omega
      · rw [List.getD_eq_getElem?_getD, List.getElem?_eq_none (by rw [loadUp_len]; exact hi)]
        exact Nat.zero_le _
theorem run_ok {c : Nat} {bs : List Int} (h6 : bs.length ≤ 6) : ∀ j, j ≤ c → LdOk c bs j (runL c bs j)
  | 0, _ => ⟨rfl, List.nodup_nil, fun x hx => absurd hx (by simp [runL]), by simp [runL], Nat.le_refl _, by simp [runL], fun i => by
    simp only [runL]
    rw [List.getD_eq_getElem?_getD]
    (rcases Nat.lt_or_ge i bs.length with hi | hi)
    · simp [hi]
    · rw [List.getElem?_eq_none (by simpa using hi)]; simp⟩
  | j + 1, h => step_ok h6 (by omega) (run_ok h6 j (by omega))
/-- the committee of names, as a sum -/
def maskN (ns : List Nat) : Nat := ns.foldl (fun w x => w + 2 ^ x) 0
theorem maskN_app (ns : List Nat) (x : Nat) : maskN (ns ++ [x]) = maskN ns + 2 ^ x := by unfold maskN; rw [List.foldl_append]; rfl
theorem mask_step : ∀ w : Fin 32, ∀ x : Fin 5, bitN w.val x.val = 0 → w.val + 2 ^ x.val < 32 ∧ ∀ y : Fin 5, bitN (w.val + 2 ^ x.val) y.val = if y = x then 1 else bitN w.val y.val := by decide +kernel
/-- the digits of the committee tell who is there -/
theorem mask_ok : ∀ ns : List Nat, ns.Nodup → (∀ x ∈ ns, x < 5) → maskN ns < 32 ∧ ∀ y, y < 5 → bitN (maskN ns) y = if y ∈ ns then 1 else 0 := by
  intro ns
  induction h : ns.length generalizing ns with
  | zero =>
    intro _ _
    obtain rfl := List.eq_nil_of_length_eq_zero h
    exact ⟨by decide, fun y _ => by simp [maskN, bitN]⟩
  | succ n ih =>
    intro hd hlt
    obtain ⟨ms, x, rfl⟩ : ∃ ms x, ns = ms ++ [x] := ⟨ns.dropLast, ns.getLast (by intro e; subst e; simp at h), (List.dropLast_concat_getLast _).symm⟩
    rw [List.nodup_append] at hd
    have hx : ¬ x ∈ ms := fun hm => hd.2.2 x hm x (by simp) rfl
    have hx5 := hlt x (by simp)
    obtain ⟨h1, h2⟩ := ih ms (by simpa using h) hd.1 (fun y hy => hlt y (by simp [hy]))
    have h3 := mask_step ⟨maskN ms, h1⟩ ⟨x, hx5⟩ (by rw [h2 x hx5, if_neg hx])
    rw [maskN_app]
    refine ⟨h3.1, fun y hy => ?_⟩
    have h4 := h3.2 ⟨y, hy⟩
    simp only at h4
    rw [h4]
    by_cases e : y = x
    · subst e; rw [if_pos rfl, if_pos (by simp)]
    · rw [if_neg (fun h => e (by simpa using h)), h2 y hy]
      simp [e]
/-- the group of the first k ballots that approve of a name, as a sum -/
def grpK (bs : List Int) (x : Nat) : Nat → Nat
  | 0 => 0
  | k + 1 => grpK bs x k + 2 ^ k * bitN (bs.getD k 0).toNat x
def grpN (bs : List Int) (x : Nat) : Nat := grpK bs x bs.length
theorem grp_step : ∀ k : Fin 6, ∀ g : Fin 32, g.val < 2 ^ k.val → ∀ b : Fin 2, g.val + 2 ^ k.val * b.val < 2 ^ (k.val + 1) ∧ pc (g.val + 2 ^ k.val * b.val) = pc g.val + b.val ∧ ∀ i : Fin 6, bitN (g.val + 2 ^ k.val * b.val) i.val = if i.val = k.val then b.val else bitN g.val i.val := by decide +kernel
theorem grp_ok (bs : List Int) (x : Nat) : ∀ k, k ≤ 6 → grpK bs x k < 2 ^ k ∧ pc (grpK bs x k) = supK bs x k ∧ ∀ i, i < 6 → bitN (grpK bs x k) i = if i < k then bitN (bs.getD i 0).toNat x else 0
  | 0, _ => ⟨by simp [grpK], by simp [grpK, supK, pc], fun i _ => by simp [grpK, bitN]⟩
  | k + 1, h => by
    obtain ⟨h1, h2, h3⟩ := grp_ok bs x k (by omega)
    have hb := bitN_le (bs.getD k 0).toNat x
    have h32 : 2 ^ k ≤ 2 ^ 5 := Nat.pow_le_pow_right (by omega) (by omega)
    obtain ⟨g1, g2, g3⟩ := grp_step ⟨k, by omega⟩ ⟨grpK bs x k, by omega⟩ h1 ⟨bitN (bs.getD k 0).toNat x, by omega⟩
    refine ⟨g1, by rw [grpK, g2, h2, supK], fun i hi => ?_⟩
    have h4 := g3 ⟨i, hi⟩
    simp only at h4
    rw [grpK, h4]
    by_cases e : i = k
    · subst e; rw [if_pos rfl, if_pos (by omega)]
    · rw [if_neg e, h3 i hi]
      by_cases h5 : i < k
      · rw [if_pos h5, if_pos (by omega)]
      · rw [if_neg h5, if_neg (by omega)]
/-- numbers as Go's integers -/
def nz (l : List Nat) : List Int := l.map fun (x : Nat) => (x : Int)
theorem nz_len (l : List Nat) : (nz l).length = l.length := List.length_map _
theorem nz_app (l : List Nat) (x : Nat) : nz (l ++ [x]) = nz l ++ [(x : Int)] := by unfold nz; rw [List.map_append]; rfl
theorem nz_get {l : List Nat} {k : Nat} (h : k < l.length) : (nz l)[k]'(by rw [nz_len]; exact h) = (l[k] : Int) := by simp [nz]
theorem nz_getD {l : List Nat} {k : Nat} : (nz l).getD k 0 = ((l.getD k 0 : Nat) : Int) := by
  unfold nz
  rw [List.getD_eq_getElem?_getD, List.getElem?_map, List.getD_eq_getElem?_getD]
  cases l[k]? <;> rfl
theorem nz_mem {l : List Nat} {x : Nat} : (x : Int) ∈ nz l ↔ x ∈ l := by
  unfold nz
  rw [List.mem_map]
  exact ⟨fun ⟨y, hy, e⟩ => by
    obtain rfl : y = x := by omega
    exact hy, fun h => ⟨x, h, rfl⟩⟩
theorem nz_rep (n x : Nat) : nz (List.replicate n x) = List.replicate n (x : Int) := by unfold nz; rw [List.map_replicate]
end Go.Proofs.Ythkikjidkehheaa
