/- Loads are fair: plain mathematics (no group that is due is wronged together by the names that are loaded). -/
import Derived.Test.YthkikjidkehheaaLoadM
import Derived.Test.YthkikjidkehheaaGrpB
import Derived.Test.YthkikjidkehheaaJustM
namespace Go.Proofs.Ythkikjidkehheaa

/-- a sum over the first places -/
def su (f : Nat → Nat) : Nat → Nat
  | 0 => 0
  | k + 1 => su f k + f k
theorem su_add (f g : Nat → Nat) : ∀ n, su (fun i => f i + g i) n = su f n + su g n
  | 0 => rfl
  | n + 1 => by simp only [su]; rw [su_add f g n]; omega
theorem su_mul (c : Nat) (f : Nat → Nat) : ∀ n, su (fun i => c * f i) n = c * su f n
  | 0 => rfl
  | n + 1 => by simp only [su]; rw [su_mul c f n, Nat.mul_add]
theorem su_le {f g : Nat → Nat} : ∀ {n : Nat}, (∀ i, i < n → f i ≤ g i) → su f n ≤ su g n
  | 0, _ => Nat.le_refl _
  | n + 1, h => by
    have h1 := su_le (n := n) (fun i hi => h i (by omega))
    have h2 := h n (by omega)
    simp only [su]; omega
theorem su_eq {f g : Nat → Nat} {n : Nat} (h : ∀ i, i < n → f i = g i) : su f n = su g n :=
  Nat.le_antisymm (su_le fun i hi => Nat.le_of_eq (h i hi)) (su_le fun i hi => Nat.le_of_eq (h i hi).symm)
theorem su_const (c : Nat) : ∀ n, su (fun _ => c) n = n * c
  | 0 => by simp [su]
  | n + 1 => by simp only [su]; rw [su_const c n, Nat.add_mul]; omega
theorem sumK_su (bs : List Int) (ls : List Nat) (x : Nat) : ∀ k, sumK bs ls x k = su (fun i => bitN (bs.getD i 0).toNat x * ls.getD i 0) k
  | 0 => rfl
  | k + 1 => by simp only [sumK, su]; rw [sumK_su bs ls x k]
theorem supK_su (bs : List Int) (x : Nat) : ∀ k, supK bs x k = su (fun i => bitN (bs.getD i 0).toNat x) k
  | 0 => rfl
  | k + 1 => by simp only [supK, su]; rw [supK_su bs x k]
theorem cnt_su (g : Nat) : ∀ k, cntK g k = su (bitN g) k
  | 0 => rfl
  | k + 1 => by simp only [cntK, su]; rw [cnt_su g k]
theorem bit01 (x j : Nat) : bitN x j = 0 ∨ bitN x j = 1 := by have := bitN_le x j; omega

/-- the scan finds the least share, and none only where nobody is left -/
theorem scanL_min {bs : List Int} {ls : List Nat} {den : Nat} {ns : List Nat} : ∀ x, ((scanL bs ls den ns x).1 < 0 → ∀ y, y < x → ¬ y ∈ ns → supN bs y = 0) ∧
    (0 ≤ (scanL bs ls den ns x).1 → ∀ y, y < x → ¬ y ∈ ns → supN bs y ≠ 0 → (scanL bs ls den ns x).2.1 * supN bs y ≤ topN bs ls den y * (scanL bs ls den ns x).2.2)
  | 0 => ⟨fun _ y h => by omega, fun _ y h => by omega⟩
  | x + 1 => by
    obtain ⟨i1, i2⟩ := scanL_min (bs := bs) (ls := ls) (den := den) (ns := ns) x
    have hok := scanL_ok (bs := bs) (ls := ls) (den := den) (ns := ns) x
    by_cases hf : fitsL bs ls den ns x (scanL bs ls den ns x) = true
    · rw [scanL_yes hf]
      refine ⟨fun h => by simp only at h; omega, fun _ y hy hn hs => ?_⟩
      simp only
      by_cases e : y = x
      · subst e; exact Nat.le_refl _
      · unfold fitsL at hf
        rw [Bool.and_eq_true, Bool.and_eq_true, Bool.or_eq_true, decide_eq_true_iff, decide_eq_true_iff, decide_eq_true_iff] at hf
        rcases hf.2.2 with h | h
        · exact absurd (i1 h y (by omega) hn) hs
        · have h0 : 0 ≤ (scanL bs ls den ns x).1 ∧ 1 ≤ (scanL bs ls den ns x).2.2 := by
            rcases hok with ⟨_, e2⟩ | ⟨a, e2, _, _, h3⟩
            · rw [e2] at h; simp at h
            · rw [e2]; exact ⟨Int.natCast_nonneg _, Nat.pos_of_ne_zero h3⟩
          have h1 := i2 h0.1 y (by omega) hn hs
          obtain ⟨T, hT⟩ : ∃ T, T = (scanL bs ls den ns x).2.1 := ⟨_, rfl⟩
          obtain ⟨B, hB⟩ : ∃ B, B = (scanL bs ls den ns x).2.2 := ⟨_, rfl⟩
          rw [← hT, ← hB] at h h1
          rw [← hB] at h0
          have e1 : topN bs ls den x * supN bs y * B ≤ topN bs ls den y * supN bs x * B := by
            calc topN bs ls den x * supN bs y * B = (topN bs ls den x * B) * supN bs y := Nat.mul_right_comm _ _ _
              _ ≤ (T * supN bs x) * supN bs y := Nat.mul_le_mul_right _ (Nat.le_of_lt h)
              _ = (T * supN bs y) * supN bs x := Nat.mul_right_comm _ _ _
              _ ≤ (topN bs ls den y * B) * supN bs x := Nat.mul_le_mul_right _ h1
              _ = topN bs ls den y * supN bs x * B := Nat.mul_right_comm _ _ _
          exact Nat.le_of_mul_le_mul_right e1 (by omega)
    · have hf' : fitsL bs ls den ns x (scanL bs ls den ns x) = false := by simpa using hf
      rw [scanL_no hf']
      have key : ¬ x ∈ ns → supN bs x ≠ 0 → ¬ (scanL bs ls den ns x).1 < 0 ∧ ¬ topN bs ls den x * (scanL bs ls den ns x).2.2 < (scanL bs ls den ns x).2.1 * supN bs x := fun hn hs => by
        refine ⟨fun h => hf ?_, fun h => hf ?_⟩
        · unfold fitsL; rw [decide_eq_true hs, decide_eq_true h]; simp [hn]
        · unfold fitsL; rw [decide_eq_true hs, decide_eq_true h]; simp [hn]
      refine ⟨fun h y hy hn => ?_, fun h y hy hn hs => ?_⟩
      · by_cases e : y = x
        · subst e
          rcases Nat.eq_zero_or_pos (supN bs y) with e0 | e0
          · exact e0
          · exact absurd h (key hn (by omega)).1
        · exact i1 h y (by omega) hn
      · by_cases e : y = x
        · subst e
          have := (key hn hs).2
          omega
        · exact i2 h y (by omega) hn hs
/-- what stays true of the loads -/
structure LdI (m : Nat) (bs : List Int) (U g : Nat) (s : List Nat × List Nat × Nat) : Prop where
  i1 : ∀ t, t < m → ¬ t ∈ s.1 → supN bs t ≠ 0 → ∀ i, i < bs.length → s.2.1.getD i 0 * supN bs t ≤ topN bs s.2.1 s.2.2 t
  i2 : su (fun i => s.2.1.getD i 0) bs.length = s.2.2 * (s.1.filter fun x => decide (supN bs x ≠ 0)).length
  i3 : su (fun i => bitN g i * s.2.1.getD i 0) bs.length ≤ s.2.2 * (s.1.filter fun x => decide (bitN U x = 1)).length
theorem filter_snoc (p : Nat → Bool) (ns : List Nat) (x : Nat) : ((ns ++ [x]).filter p).length = (ns.filter p).length + if p x = true then 1 else 0 := by
  rw [List.filter_append, List.length_append]
  by_cases h : p x = true <;> simp [h]
theorem ldI_step {m : Nat} {bs : List Int} {U g : Nat} {s : List Nat × List Nat × Nat} (h5 : m ≤ 5) (hlt : s.1.length < m) (hU : ∀ i, i < bs.length → bitN g i = 1 → ∀ x, x < 5 → bitN (bs.getD i 0).toNat x = 1 → bitN U x = 1) (h : LdI m bs U g s) : LdI m bs U g (stepL m bs s) := by
  obtain ⟨ns, ls, den⟩ := s
  obtain ⟨i1, i2, i3⟩ := h
  simp only at i1 i2 i3 hlt
  have hfree := free_not ns
  have hfl := free_le ns
  obtain ⟨m1, m2⟩ := scanL_min (bs := bs) (ls := ls) (den := den) (ns := ns) m
  rcases scanL_ok (bs := bs) (ls := ls) (den := den) (ns := ns) m with ⟨e0, e⟩ | ⟨a, e, ham, han, hsa⟩
  · have hz := m1 (by rw [e0]; decide)
    have hst : stepL m bs (ns, ls, den) = (ns ++ [freeN ns], ls, den) := by
      unfold stepL; simp only; rw [if_pos (by rw [e0]; decide)]
    rw [hst]
    have hf0 := hz (freeN ns) (by omega) hfree
    refine ⟨fun t ht hn hs => absurd (hz t ht (fun hm => hn (List.mem_append_left _ hm))) hs, ?_, ?_⟩
    · simp only
      rw [i2, filter_snoc, decide_eq_false (fun hh => hh hf0)]; rfl
    · simp only
      rw [filter_snoc]
      exact Nat.le_trans i3 (Nat.mul_le_mul_left _ (Nat.le_add_right _ _))
  · have hst : stepL m bs (ns, ls, den) = (ns ++ [a], loadUp bs ls a (topN bs ls den a) (supN bs a), den * supN bs a) := by
      unfold stepL; simp only; rw [e, if_neg (by simp only; omega)]; simp only [Int.toNat_natCast]
    rw [hst]
    have hmin := m2 (by rw [e]; exact Int.natCast_nonneg _)
    rw [e] at hmin
    simp only at hmin
    have j1 := i1 a ham han hsa
    obtain ⟨top, htop⟩ : ∃ top, top = topN bs ls den a := ⟨_, rfl⟩
    obtain ⟨bot, hbot⟩ : ∃ bot, bot = supN bs a := ⟨_, rfl⟩
    rw [← htop, ← hbot] at hmin j1 ⊢
    have hb1 : 1 ≤ bot := by omega
    have hl' : ∀ i, i < bs.length → (loadUp bs ls a top bot).getD i 0 = if bitN (bs.getD i 0).toNat a = 1 then top else ls.getD i 0 * bot := fun i hi => loadUp_at hi
    have hup : ∀ i, i < bs.length → bot * ls.getD i 0 ≤ (loadUp bs ls a top bot).getD i 0 := fun i hi => by
      rw [hl' i hi]
      split
      · have := j1 i hi; rw [Nat.mul_comm]; exact this
      · rw [Nat.mul_comm]; exact Nat.le_refl _
    have htop2 : top = den + su (fun i => bitN (bs.getD i 0).toNat a * ls.getD i 0) bs.length := by rw [htop, topN, sumN, sumK_su]
    have hbot2 : bot = su (fun i => bitN (bs.getD i 0).toNat a) bs.length := by rw [hbot, supN, supK_su]
    have hsum : su (fun i => (loadUp bs ls a top bot).getD i 0) bs.length = den * bot + bot * su (fun i => ls.getD i 0) bs.length := by
      have h1 : su (fun i => (loadUp bs ls a top bot).getD i 0 + bot * (bitN (bs.getD i 0).toNat a * ls.getD i 0)) bs.length = su (fun i => top * bitN (bs.getD i 0).toNat a + bot * ls.getD i 0) bs.length := su_eq fun i hi => by
        rw [hl' i hi]
        rcases bit01 (bs.getD i 0).toNat a with hb | hb
        · rw [hb, if_neg (by decide), Nat.zero_mul, Nat.mul_zero, Nat.mul_zero, Nat.mul_comm bot]; omega
        · rw [hb, if_pos rfl, Nat.one_mul, Nat.mul_one]
      rw [su_add, su_add, su_mul, su_mul, su_mul, ← hbot2] at h1
      have h2 : top * bot = den * bot + bot * su (fun i => bitN (bs.getD i 0).toNat a * ls.getD i 0) bs.length := by
        conv => lhs; rw [htop2]
        rw [Nat.add_mul, Nat.mul_comm bot]
      omega
    refine ⟨fun t ht hn hs i hi => ?_, ?_, ?_⟩
    · simp only at hn ⊢
      have hnt : ¬ t ∈ ns := fun hm => hn (List.mem_append_left _ hm)
      have k1 := i1 t ht hnt hs i hi
      have k2 := hmin t ht hnt hs
      have k3 : bot * topN bs ls den t ≤ topN bs (loadUp bs ls a top bot) (den * bot) t := by
        rw [topN, topN, sumN, sumN, sumK_su, sumK_su, Nat.mul_add, ← su_mul, Nat.mul_comm bot den]
        refine Nat.add_le_add_left (su_le fun j hj => ?_) _
        have := Nat.mul_le_mul_left (bitN (bs.getD j 0).toNat t) (hup j hj)
        rw [← Nat.mul_assoc, Nat.mul_comm bot, Nat.mul_assoc]
        exact this
      refine Nat.le_trans ?_ k3
      rw [hl' i hi]
      split
      · rw [Nat.mul_comm bot]; exact k2
      · rw [Nat.mul_right_comm, Nat.mul_comm]
        exact Nat.mul_le_mul_left _ k1
    · simp only
      rw [hsum, i2, filter_snoc, if_pos (decide_eq_true (by omega)), Nat.mul_add, Nat.mul_one, ← Nat.mul_assoc, Nat.mul_comm bot den, Nat.add_comm]
    · simp only
      rw [filter_snoc]
      by_cases hu : bitN U a = 1
      · rw [if_pos (decide_eq_true hu)]
        have h1 : su (fun i => bitN g i * (loadUp bs ls a top bot).getD i 0 + bot * ls.getD i 0) bs.length ≤ su (fun i => bot * (bitN g i * ls.getD i 0) + (loadUp bs ls a top bot).getD i 0) bs.length := su_le fun i hi => by
          have := hup i hi
          rcases bit01 g i with hb | hb
          · rw [hb, Nat.zero_mul, Nat.zero_mul, Nat.mul_zero]; omega
          · rw [hb, Nat.one_mul, Nat.one_mul]; omega
        rw [su_add, su_add, su_mul, su_mul, hsum] at h1
        have h2 := Nat.mul_le_mul_left bot i3
        rw [← Nat.mul_assoc, Nat.mul_comm bot den] at h2
        rw [Nat.mul_add, Nat.mul_one]
        omega
      · have h1 : su (fun i => bitN g i * (loadUp bs ls a top bot).getD i 0) bs.length = bot * su (fun i => bitN g i * ls.getD i 0) bs.length := by
          rw [← su_mul]
          refine su_eq fun i hi => ?_
          rcases bit01 g i with hb | hb
          · rw [hb, Nat.zero_mul, Nat.zero_mul, Nat.mul_zero]
          · rw [hb, Nat.one_mul, Nat.one_mul, hl' i hi, if_neg (fun hh => hu (hU i hi hb a (by omega) hh)), Nat.mul_comm]
        have h2 := Nat.mul_le_mul_left bot i3
        rw [← Nat.mul_assoc, Nat.mul_comm bot den] at h2
        rw [h1, Nat.mul_add]
        omega
theorem ldI_run {m : Nat} {bs : List Int} {U g : Nat} (h5 : m ≤ 5) (h6 : bs.length ≤ 6) (hU : ∀ i, i < bs.length → bitN g i = 1 → ∀ x, x < 5 → bitN (bs.getD i 0).toNat x = 1 → bitN U x = 1) : ∀ j, j ≤ m → LdI m bs U g (runL m bs j)
  | 0, _ => by
    have hz : ∀ i, (List.replicate bs.length 0).getD i 0 = 0 := fun i => by
      rw [List.getD_eq_getElem?_getD]
      rcases Nat.lt_or_ge i bs.length with hi | hi
      · simp [hi]
      · rw [List.getElem?_eq_none (by simpa using hi)]; rfl
    refine ⟨fun t _ _ _ i _ => ?_, ?_, ?_⟩
    · show (List.replicate bs.length 0).getD i 0 * _ ≤ _
      rw [hz i, Nat.zero_mul]; exact Nat.zero_le _
    · show su (fun i => (List.replicate bs.length 0).getD i 0) bs.length = 1 * 0
      rw [su_eq (g := fun _ => 0) (fun i _ => hz i), su_const, Nat.mul_zero, Nat.mul_zero]
    · show su (fun i => bitN g i * (List.replicate bs.length 0).getD i 0) bs.length ≤ 1 * 0
      rw [su_eq (g := fun _ => 0) (fun i _ => by rw [hz i, Nat.mul_zero]), su_const]
      exact Nat.le_refl _
  | j + 1, h => ldI_step h5 (by rw [(run_ok (c := m) (bs := bs) h6 j (by omega)).ns]; omega) hU (ldI_run h5 h6 hU j (by omega))
/-- where a name with ballots is left, each that is there has ballots -/
theorem all_wanted {m t : Nat} {bs : List Int} (h6 : bs.length ≤ 6) (ht : t < m) (hs : supN bs t ≠ 0) : ∀ j, j ≤ m → ¬ t ∈ (runL m bs j).1 → ((runL m bs j).1.filter fun x => decide (supN bs x ≠ 0)).length = j
  | 0, _, _ => rfl
  | j + 1, hj, hn => by
    have OK := run_ok (c := m) (bs := bs) h6 j (by omega)
    have e1 : runL m bs (j + 1) = stepL m bs (runL m bs j) := rfl
    rw [e1] at hn ⊢
    have ih := all_wanted h6 ht hs j (by omega)
    obtain ⟨⟨ns, ls, den⟩, hst⟩ : ∃ s, runL m bs j = s := ⟨_, rfl⟩
    rw [hst] at hn ih ⊢
    simp only at ih
    rcases scanL_ok (bs := bs) (ls := ls) (den := den) (ns := ns) m with ⟨e0, e⟩ | ⟨a, e, ham, han, hsa⟩
    · have hst2 : stepL m bs (ns, ls, den) = (ns ++ [freeN ns], ls, den) := by
        unfold stepL; simp only; rw [if_pos (by rw [e0]; decide)]
      rw [hst2] at hn
      simp only at hn
      have hz := (scanL_min (bs := bs) (ls := ls) (den := den) (ns := ns) m).1 (by rw [e0]; decide) t ht (fun hm => hn (List.mem_append_left _ hm))
      exact absurd hz hs
    · have hst2 : stepL m bs (ns, ls, den) = (ns ++ [a], loadUp bs ls a (topN bs ls den a) (supN bs a), den * supN bs a) := by
        unfold stepL; simp only; rw [e, if_neg (by simp only; omega)]; simp only [Int.toNat_natCast]
      rw [hst2] at hn ⊢
      simp only at hn ⊢
      rw [filter_snoc, ih (fun hm => hn (List.mem_append_left _ hm)), if_pos (decide_eq_true hsa)]
theorem mask_and : ∀ U w : Fin 32, ∀ x : Fin 5, bitN w.val x.val = 0 → pc (U.val &&& (w.val + 2 ^ x.val)) = pc (U.val &&& w.val) + bitN U.val x.val := by decide +kernel
/-- how many of those that are there one of the members approves of -/
theorem mask_cnt {U : Nat} (hU : U < 32) : ∀ ns : List Nat, ns.Nodup → (∀ x ∈ ns, x < 5) → pc (U &&& maskN ns) = (ns.filter fun x => decide (bitN U x = 1)).length := by
  intro ns
  induction h : ns.length generalizing ns with
  | zero =>
    intro _ _
    obtain rfl := List.eq_nil_of_length_eq_zero h
    show pc (U &&& 0) = 0
    rw [Nat.and_zero]; rfl
  | succ n ih =>
    intro hd hlt
    obtain ⟨ms, x, rfl⟩ : ∃ ms x, ns = ms ++ [x] := ⟨ns.dropLast, ns.getLast (by intro e; subst e; simp at h), (List.dropLast_concat_getLast _).symm⟩
    rw [List.nodup_append] at hd
    have hx : ¬ x ∈ ms := fun hm => hd.2.2 x hm x (by simp) rfl
    have hx5 := hlt x (by simp)
    have hlt' : ∀ y ∈ ms, y < 5 := fun y hy => hlt y (by simp [hy])
    obtain ⟨h1, h2⟩ := mask_ok ms hd.1 hlt'
    rw [maskN_app, filter_snoc, mask_and ⟨U, hU⟩ ⟨maskN ms, h1⟩ ⟨x, hx5⟩ (by rw [h2 x hx5, if_neg hx]), ih ms (by simpa using h) hd.1 hlt']
    rcases bit01 U x with hb | hb <;> simp [hb]
theorem pick_finL : ∀ A w : Fin 32, pc (A.val &&& w.val) < pc A.val → ∃ j : Fin 5, bitN A.val j.val = 1 ∧ bitN w.val j.val = 0 := by decide +kernel
theorem memK_has {bs : List Int} {g i : Nat} (hb : bitN g i = 1) : ∀ k, i < k → bs.getD i 0 ∈ memK bs g k
  | 0, h => by omega
  | k + 1, h => by
    by_cases e : i = k
    · subst e; rw [memK_yes hb]; simp
    · have := memK_has (bs := bs) hb k (by omega)
      by_cases hk : bitN g k = 1
      · rw [memK_yes hk]; exact List.mem_append_left _ this
      · rw [memK_no hk]; exact this
/-- no group to whom l names are due shares fewer than l of the names that are loaded -/
theorem loads_fair {m K g l : Nat} {bs : List Int} (h5 : m ≤ 5) (h6 : bs.length ≤ 6) (h1 : 1 ≤ bs.length) (hK : K ≤ m) (hr : ∀ b ∈ bs, 0 ≤ b ∧ b ≤ 31) (hg : g < 2 ^ bs.length) (hl : 1 ≤ l)
    (hd : l * bs.length ≤ (memL bs g).length * K) (ha : l ≤ pc (andL (memL bs g) (2 ^ m - 1))) (hw : pc (orL (memL bs g) 0 &&& maskN (runL m bs K).1) < l) : False := by
  have OK := run_ok (c := m) (bs := bs) h6 K hK
  have hlt5 : ∀ x ∈ (runL m bs K).1, x < 5 := fun x hx => by have := OK.lt x hx; omega
  obtain ⟨hw32, hwb⟩ := mask_ok _ OK.nd hlt5
  have hmem : ∀ b ∈ memL bs g, 0 ≤ b ∧ b ≤ 31 := fun b hb => hr b ((memL_sub bs g).subset hb)
  have hU32 : orL (memL bs g) 0 < 32 := orL_lt _ hmem 0 (by decide)
  have hcnt := mask_cnt hU32 _ OK.nd hlt5
  have hGl : (memL bs g).length = pc g := memL_len h6 hg
  have hcg := cnt_pc g bs.length h6 hg
  rw [cnt_su] at hcg
  obtain ⟨U, hUe⟩ : ∃ U, U = orL (memL bs g) 0 := ⟨_, rfl⟩
  obtain ⟨T, hTe⟩ : ∃ T, T = andL (memL bs g) (2 ^ m - 1) := ⟨_, rfl⟩
  have hUb : ∀ i, i < bs.length → bitN g i = 1 → ∀ x, x < 5 → bitN (bs.getD i 0).toNat x = 1 → bitN U x = 1 := fun i hi hb x _ hx => by
    rw [tb_bitN] at hx ⊢
    rw [hUe, orL_bit]
    exact .inr ⟨_, memK_has hb _ hi, hx⟩
  have INV := ldI_run (m := m) (bs := bs) (U := U) (g := g) h5 h6 hUb K hK
  have hTb : ∀ x, bitN T x = 1 → x < m ∧ ∀ b ∈ memL bs g, b.toNat.testBit x = true := fun x hx => by
    rw [tb_bitN, hTe, andL_bit, Nat.testBit_two_pow_sub_one, decide_eq_true_eq] at hx
    exact hx
  have hTl : T ≤ 2 ^ m - 1 := by rw [hTe]; exact andL_le _ _
  have h32 : 2 ^ m ≤ 2 ^ 5 := Nat.pow_le_pow_right (by omega) h5
  have hT32 : T < 32 := by have := Nat.two_pow_pos m; omega
  have hne : memL bs g ≠ [] := fun e => by
    rw [e] at hd
    simp only [List.length_nil, Nat.zero_mul] at hd
    have := Nat.mul_le_mul hl h1
    omega
  obtain ⟨b0, hb0⟩ := List.exists_mem_of_ne_nil _ hne
  have hTU : T &&& U = T := by
    apply Nat.eq_of_testBit_eq
    intro i
    rw [Nat.testBit_and]
    cases hi : T.testBit i with
    | false => rfl
    | true =>
      rw [hTe, andL_bit] at hi
      rw [Bool.true_and, hUe, orL_bit]
      exact .inr ⟨b0, hb0, hi.2 b0 hb0⟩
  have hle : pc (T &&& maskN (runL m bs K).1) ≤ pc (U &&& maskN (runL m bs K).1) :=
    pc_mono _ _ (Nat.and_lt_two_pow (n := 5) _ hw32) (Nat.and_lt_two_pow (n := 5) _ hw32) (and_sub T U _ hTU)
  rw [← hUe] at hw hcnt
  rw [← hTe] at ha
  obtain ⟨t, ht1, ht2⟩ := pick_finL ⟨T, hT32⟩ ⟨_, hw32⟩ (by simp only; omega)
  simp only at ht1 ht2
  obtain ⟨htm, htall⟩ := hTb _ ht1
  have htn : ¬ t.val ∈ (runL m bs K).1 := fun hm => by rw [hwb _ t.isLt, if_pos hm] at ht2; cases ht2
  have hgt : ∀ i, i < bs.length → bitN g i ≤ bitN (bs.getD i 0).toNat t.val := fun i hi => by
    rcases bit01 g i with hb | hb
    · omega
    · have := (tb_bitN _ _).2 (htall _ (memK_has hb _ hi))
      omega
  obtain ⟨S, hS⟩ : ∃ S, S = supN bs t.val := ⟨_, rfl⟩
  have hS2 : S = su (fun i => bitN (bs.getD i 0).toNat t.val) bs.length := by rw [hS, supN, supK_su]
  obtain ⟨G, hG⟩ : ∃ G, G = pc g := ⟨_, rfl⟩
  rw [← hG] at hcg hGl
  rw [hGl] at hd
  have hG1 : 1 ≤ G := by
    rcases Nat.eq_zero_or_pos G with e | e
    · rw [e, Nat.zero_mul] at hd
      have := Nat.mul_le_mul hl h1
      omega
    · exact e
  have hGS : G ≤ S := by rw [← hcg, hS2]; exact su_le hgt
  have hall := all_wanted h6 htm (by omega) K hK htn
  obtain ⟨⟨ns, ls, den⟩, hst⟩ : ∃ s, runL m bs K = s := ⟨_, rfl⟩
  rw [hst] at INV hall hcnt htn OK hw
  obtain ⟨i1, i2, i3⟩ := INV
  have hd1 := OK.d1
  simp only at i1 i2 i3 hall hcnt htn hd1 hw
  rw [hall] at i2
  rw [← hcnt] at i3
  have j1 := i1 t.val htm htn (by omega)
  rw [← hS] at j1
  obtain ⟨c, hc⟩ : ∃ c, c = pc (U &&& maskN ns) := ⟨_, rfl⟩
  rw [← hc] at i3 hw
  obtain ⟨M, hM⟩ : ∃ M, M = topN bs ls den t.val := ⟨_, rfl⟩
  rw [← hM] at j1
  obtain ⟨C, hC⟩ : ∃ C, C = su (fun i => bitN (bs.getD i 0).toNat t.val * ls.getD i 0) bs.length := ⟨_, rfl⟩
  have hM2 : M = den + C := by rw [hM, hC, topN, sumN, sumK_su]
  obtain ⟨B, hB⟩ : ∃ B, B = su (fun i => bitN g i * ls.getD i 0) bs.length := ⟨_, rfl⟩
  obtain ⟨A, hA⟩ : ∃ A, A = su (fun i => ls.getD i 0) bs.length := ⟨_, rfl⟩
  rw [← hB] at i3
  rw [← hA] at i2
  obtain ⟨n, hn⟩ : ∃ n, n = bs.length := ⟨_, rfl⟩
  rw [← hn] at j1 hC hB hA hS2 hcg hd h1 hgt
  -- the members' part of the share
  have q4 : G * M ≤ S * B + S * den := by
    have h2 : su (fun i => S * (bitN (bs.getD i 0).toNat t.val * ls.getD i 0) + M * bitN g i) n ≤ su (fun i => S * (bitN g i * ls.getD i 0) + M * bitN (bs.getD i 0).toNat t.val) n := su_le fun i hi => by
      have h3 := j1 i hi
      have h4 := hgt i hi
      rcases bit01 g i with hb | hb
      · rcases bit01 (bs.getD i 0).toNat t.val with hb2 | hb2
        · rw [hb, hb2]; omega
        · rw [hb, hb2, Nat.one_mul, Nat.zero_mul, Nat.mul_zero, Nat.mul_zero, Nat.mul_one, Nat.mul_comm S]; omega
      · have hb2 : bitN (bs.getD i 0).toNat t.val = 1 := by have := bitN_le (bs.getD i 0).toNat t.val; omega
        rw [hb, hb2]; exact Nat.le_refl _
    rw [su_add, su_add, su_mul, su_mul, su_mul, su_mul, hcg, ← hS2, ← hC, ← hB] at h2
    have h3 : M * S = S * den + S * C := by rw [hM2, Nat.mul_comm, Nat.mul_add]
    rw [Nat.mul_comm G]
    omega
  have q5 : G * M ≤ S * den * l := by
    have h2 := Nat.mul_le_mul_left S i3
    have h3 : S * (den * c) + S * den = S * den * (c + 1) := by rw [Nat.mul_add, Nat.mul_one, Nat.mul_assoc]
    have h4 := Nat.mul_le_mul_left (S * den) (show c + 1 ≤ l from hw)
    omega
  have q6 : n * M ≤ S * A := by
    have h2 : n * (G * M) ≤ S * den * (G * K) := by
      have h3 := Nat.mul_le_mul_left n q5
      have h4 : n * (S * den * l) = S * den * (l * n) := by rw [Nat.mul_comm n, Nat.mul_assoc]
      have h5 := Nat.mul_le_mul_left (S * den) hd
      omega
    have h3 : n * (G * M) = G * (n * M) := Nat.mul_left_comm _ _ _
    have h4 : S * den * (G * K) = G * (S * (den * K)) := by
      rw [Nat.mul_left_comm, Nat.mul_assoc]
    rw [h3, h4] at h2
    rw [i2]
    exact Nat.le_of_mul_le_mul_left h2 hG1
  have q7 : G * M ≤ S * B := by
    have h2 : su (fun i => M * bitN g i + S * ls.getD i 0) n ≤ su (fun i => S * (bitN g i * ls.getD i 0) + M) n := su_le fun i hi => by
      have h3 := j1 i hi
      rcases bit01 g i with hb | hb
      · rw [hb, Nat.zero_mul, Nat.mul_zero, Nat.mul_zero, Nat.mul_comm S]; omega
      · rw [hb, Nat.one_mul, Nat.mul_one, Nat.add_comm]; exact Nat.le_refl _
    rw [su_add, su_add, su_mul, su_mul, su_mul, su_const, hcg, ← hA, ← hB] at h2
    rw [Nat.mul_comm G]
    omega
  have q8 : n * M = S * A := by
    have h2 : su (fun i => S * ls.getD i 0) n ≤ su (fun _ => M) n := su_le fun i hi => by
      have := j1 i hi
      rw [Nat.mul_comm]; exact this
    rw [su_mul, su_const, ← hA] at h2
    omega
  have q9 : S * den * l ≤ G * M := by
    have h2 : n * (S * den * l) ≤ n * (G * M) := by
      have h4 : n * (S * den * l) = S * den * (l * n) := by rw [Nat.mul_comm n, Nat.mul_assoc]
      have h5 := Nat.mul_le_mul_left (S * den) hd
      have h6 : S * den * (G * K) = n * (G * M) := by
        rw [Nat.mul_left_comm n G M, q8, i2, Nat.mul_left_comm, Nat.mul_assoc]
      omega
    exact Nat.le_of_mul_le_mul_left h2 h1
  have q10 : S * B ≤ S * den * c := by
    have := Nat.mul_le_mul_left S i3
    rw [← Nat.mul_assoc] at this
    exact this
  have q11 : S * den * c < S * den * l := Nat.mul_lt_mul_of_pos_left hw (Nat.mul_pos (by omega) hd1)
  omega
end Go.Proofs.Ythkikjidkehheaa
