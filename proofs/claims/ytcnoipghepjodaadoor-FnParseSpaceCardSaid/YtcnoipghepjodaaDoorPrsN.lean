/- What a text is read as: mathematics; nothing of the program. -/
import Derived.Test.YtcnoipghepjodaaDoorPrsM
import Derived.Lib.AtoiAll
namespace Go.Proofs.YtcnoipghepjodaaDoor

/-- the model's reading of digits -/
def rdL : List UInt8 → Nat → Int
  | [], n => (n : Int)
  | b :: r, n => if b.toNat < 48 ∨ 57 < b.toNat ∨ 1000 < n then -1 else rdL r (10 * n + (b.toNat - 48))
theorem rdL_in : ∀ (l : List UInt8) (n : Nat), n ≤ 10009 → -1 ≤ rdL l n ∧ rdL l n ≤ 10009
  | [], n, h => by simp [rdL]; omega
  | b :: r, n, h => by
    unfold rdL
    split
    · decide
    · rename_i hc
      exact rdL_in r _ (by omega)
/-- the number that a text is, of the model -/
def rdN (l : List UInt8) : Int := if rdL l 0 < 0 then -1 else if l = [] ∨ Lib.decDigits (rdL l 0).toNat ≠ l then -1 else rdL l 0
theorem rdN_dec : ∀ n : Fin 16, rdN (Lib.decDigits n.val) = (n.val : Int) := by decide +kernel
theorem rdN_iff {l : List UInt8} {x : Int} (h : 0 ≤ x ∧ x ≤ 15) : rdN l = x ↔ l = Lib.decDigits x.toNat := by
  constructor
  · intro e
    unfold rdN at e
    split at e
    · omega
    · split at e
      · omega
      · rename_i h2
        rw [not_or, Classical.not_not] at h2
        rw [← e]
        exact h2.2.symm
  · intro e
    have := rdN_dec ⟨x.toNat, by omega⟩
    simp only at this
    rw [e, this]
    omega
/-- the number that a text is, of the program -/
def prN (l : List UInt8) : Option Int := match Lib.atoiAll l with
  | .ok x => if Lib.itoa x = l then some x else none
  | _ => none
theorem prN_dec : ∀ n : Fin 16, prN (Lib.decDigits n.val) = some (n.val : Int) := by decide +kernel
theorem prN_nil : prN [] = none := rfl
theorem prN_iff {l : List UInt8} {x : Int} (h : 0 ≤ x ∧ x ≤ 15) : prN l = some x ↔ l = Lib.decDigits x.toNat := by
  constructor
  · intro e
    unfold prN at e
    split at e
    · split at e
      · rename_i h2
        cases e
        rw [← h2]
        unfold Lib.itoa
        rw [if_neg (by omega)]
      · cases e
    · cases e
  · intro e
    have := prN_dec ⟨x.toNat, by omega⟩
    simp only at this
    rw [e, this]
    congr 1
    omega
def prL : List (List UInt8) → Option (List Int)
  | [] => some []
  | p :: ps => match prN p with
    | none => none
    | some x => match prL ps with
      | none => none
      | some xs => some (x :: xs)
theorem prL_iff : ∀ {ps : List (List UInt8)} {zs : List Int}, (∀ z ∈ zs, 0 ≤ z ∧ z ≤ 15) → (prL ps = some zs ↔ ps = zs.map fun x => Lib.decDigits x.toNat)
  | [], zs, _ => by
    constructor
    · intro e; cases e; rfl
    · intro e
      have : zs = [] := by simpa using e.symm
      subst this; rfl
  | p :: ps, zs, h => by
    constructor
    · intro e
      unfold prL at e
      split at e
      · cases e
      · rename_i x hx
        split at e
        · cases e
        · rename_i xs hxs
          cases e
          rw [List.map_cons, (prN_iff (h x (by simp))).1 hx, (prL_iff (fun z hz => h z (by simp [hz]))).1 hxs]
    · intro e
      cases zs with
      | nil => cases e
      | cons z zs =>
        rw [List.map_cons, List.cons.injEq] at e
        unfold prL
        rw [(prN_iff (h z (by simp))).2 e.1]
        simp only
        rw [(prL_iff (fun y hy => h y (by simp [hy]))).2 e.2]
theorem rdM_iff : ∀ {ps : List (List UInt8)} {zs : List Int}, (∀ z ∈ zs, 0 ≤ z ∧ z ≤ 15) → (ps.map rdN = zs ↔ ps = zs.map fun x => Lib.decDigits x.toNat)
  | [], zs, _ => by
    constructor
    · intro e; rw [← e]; rfl
    · intro e
      have : zs = [] := by simpa using e.symm
      subst this; rfl
  | p :: ps, [], _ => by simp
  | p :: ps, z :: zs, h => by
    rw [List.map_cons, List.map_cons, List.cons.injEq, List.cons.injEq, rdN_iff (h z (by simp)), rdM_iff (fun y hy => h y (by simp [hy]))]
/-- l is the text of a valid space -/
def TS (l : List UInt8) (n : Int) (zs : List Int) : Prop := Valid n zs ∧ l = Lib.decDigits n.toNat ++ 58 :: Lib.join (zs.map fun x => Lib.decDigits x.toNat) [44]
theorem dec_clean : ∀ n : Fin 16, ¬ (58 : UInt8) ∈ Lib.decDigits n.val ∧ ¬ (44 : UInt8) ∈ Lib.decDigits n.val := by decide +kernel
theorem dec_of {x : Int} (h : 0 ≤ x ∧ x ≤ 15) : ¬ (58 : UInt8) ∈ Lib.decDigits x.toNat ∧ ¬ (44 : UInt8) ∈ Lib.decDigits x.toNat := dec_clean ⟨x.toNat, by omega⟩
theorem join_clean {c d : UInt8} (hcd : c ≠ d) : ∀ ls : List (List UInt8), (∀ l ∈ ls, ¬ c ∈ l) → ¬ c ∈ Lib.join ls [d]
  | [], _ => by simp [Lib.join_nil]
  | [x], h => by rw [Lib.join_one]; exact h x (by simp)
  | x :: y :: r, h => by
    rw [join_cc]
    simp only [List.mem_append, List.mem_singleton, not_or]
    exact ⟨⟨h x (by simp), hcd⟩, join_clean hcd (y :: r) (fun l hl => h l (by simp only [List.mem_cons] at hl ⊢; exact .inr hl))⟩
theorem ts_facts {l : List UInt8} {n : Int} {zs : List Int} (h : TS l n zs) : spl 58 l = [Lib.decDigits n.toNat, Lib.join (zs.map fun x => Lib.decDigits x.toNat) [44]] ∧ spl 44 (Lib.join (zs.map fun x => Lib.decDigits x.toNat) [44]) = zs.map fun x => Lib.decDigits x.toNat := by
  obtain ⟨hV, rfl⟩ := h
  have hr := valid_range hV
  have hm : ∀ l ∈ (zs.map fun x => Lib.decDigits x.toNat), ¬ (58 : UInt8) ∈ l ∧ ¬ (44 : UInt8) ∈ l := fun l hl => by
    obtain ⟨x, hx, rfl⟩ := List.mem_map.1 hl
    exact dec_of (hr x hx)
  have hne : (zs.map fun x => Lib.decDigits x.toNat) ≠ [] := fun e => by
    have h0 := hV.2.1
    have : zs = [] := by simpa using e
    subst this; simp at h0
  refine ⟨?_, spl_join _ hne (fun l hl => (hm l hl).2)⟩
  rw [spl_app _ (dec_of (by have := hV.1; omega)).1, spl_none (join_clean (by decide) _ (fun l hl => (hm l hl).1))]
/-- what the model reads -/
def parS (l : List UInt8) : Option (Int × List Int) := match spl 58 l with
  | [h, t] => if vsB (rdN h) ((spl 44 t).map rdN) = true then some (rdN h, (spl 44 t).map rdN) else none
  | _ => none
theorem parS_iff {l : List UInt8} {n : Int} {zs : List Int} : parS l = some (n, zs) ↔ TS l n zs := by
  constructor
  · intro e
    unfold parS at e
    split at e
    · rename_i h t hs
      split at e
      · rename_i hv
        simp only [Option.some.injEq, Prod.mk.injEq] at e
        obtain ⟨e1, e2⟩ := e
        rw [e1, e2] at hv
        have hV := valid_of hv
        have hr := valid_range hV
        have h1 := (rdN_iff (by have := hV.1; omega)).1 e1
        have h2 := (rdM_iff hr).1 e2
        refine ⟨hV, ?_⟩
        have h3 := join_spl 58 l
        rw [hs, join_cc, Lib.join_one] at h3
        have h4 := join_spl 44 t
        rw [h2] at h4
        rw [← h3, h1, ← h4]
        simp
      · cases e
    · cases e
  · intro h
    obtain ⟨f1, f2⟩ := ts_facts h
    have hV := h.1
    have hr := valid_range hV
    unfold parS
    rw [f1]
    simp only
    rw [f2, (rdN_iff (x := n) (by have := hV.1; omega)).2 rfl, (rdM_iff hr).2 rfl, if_pos (vsB_true hV)]
/-- what the program reads -/
def parI (l : List UInt8) : Option (Int × List Int) := match prN (Lib.cut l [58]).1, prL (spl 44 (Lib.cut l [58]).2.1) with
  | some n, some zs => if vsB n zs = true then some (n, zs) else none
  | _, _ => none
theorem parI_iff {l : List UInt8} {n : Int} {zs : List Int} : parI l = some (n, zs) ↔ TS l n zs := by
  constructor
  · intro e
    rcases cut_spl 58 l with ⟨hn, hc⟩ | ⟨a, b, rfl, hn, hc⟩
    · unfold parI at e
      rw [hc] at e
      simp only [spl, prL, prN_nil] at e
      split at e
      · rename_i h2; cases h2
      · cases e
    · unfold parI at e
      rw [hc] at e
      simp only at e
      split at e
      · rename_i x xs hx hxs
        split at e
        · rename_i hv
          cases e
          have hV := valid_of hv
          have hr := valid_range hV
          have h1 := (prN_iff (by have := hV.1; omega)).1 hx
          have h2 := (prL_iff hr).1 hxs
          have h4 := join_spl 44 b
          rw [h2] at h4
          exact ⟨hV, by rw [h1, h4]⟩
        · cases e
      · cases e
  · intro h
    obtain ⟨f1, f2⟩ := ts_facts h
    have hV := h.1
    have hr := valid_range hV
    rcases cut_spl 58 l with ⟨hn, hc⟩ | ⟨a, b, rfl, hn, hc⟩
    · rw [spl_none hn] at f1; cases f1
    · rw [spl_app _ hn] at f1
      simp only [List.cons.injEq] at f1
      have hb := join_spl 58 b
      rw [f1.2, Lib.join_one] at hb
      unfold parI
      rw [hc]
      simp only
      rw [f1.1, ← hb, f2, (prN_iff (x := n) (by have := hV.1; omega)).2 rfl, (prL_iff hr).2 rfl]
      simp only
      rw [if_pos (vsB_true hV)]
theorem par_same (l : List UInt8) : parI l = parS l := by
  cases h : parS l with
  | some p =>
    obtain ⟨n, zs⟩ := p
    exact parI_iff.2 (parS_iff.1 h)
  | none =>
    cases h2 : parI l with
    | none => rfl
    | some p =>
      obtain ⟨n, zs⟩ := p
      rw [parS_iff.2 (parI_iff.1 h2)] at h
      cases h
end Go.Proofs.YtcnoipghepjodaaDoor
