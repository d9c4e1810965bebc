/- Texts of this seat one behind the other: PrsN, PrsS, Mark, Apt. Conditions: none. -/
import Derived.Test.YtgebplpbnaeckaaGreatDoorMg02
import Derived.Test.YtgebplpbnaeckaaGreatDoorMg01
import Derived.Lib.AtoiAll
import Derived.Deep.DeepAppendRoom
import Derived.OwnWalk
import Derived.OpenShut
import Derived.ArgAppend

/- PrsN: What a text is read as: mathematics; nothing of the program. -/
namespace Go.Proofs.YtgebplpbnaeckaaGreatDoor

/-- the model's reading of digits -/
def rdL : List UInt8 → Nat → Int
  | [], n => (n : Int)
  | b :: r, n => if b.toNat < 48 ∨ 57 < b.toNat ∨ 1000 < n then -1 else rdL r (10 * n + (b.toNat - 48))
theorem rdL_in : ∀ (l : List UInt8) (n : Nat), n ≤ 10009 → -1 ≤ rdL l n ∧ rdL l n ≤ 10009
  | [], n, h => by simp [rdL]; omega
  | b :: r, n, h => by
    unfold rdL
    split
    · decide
    · rename_i hc
      exact rdL_in r _ (by omega)
/-- the number that a text is, of the model -/
def rdN (l : List UInt8) : Int := if rdL l 0 < 0 then -1 else if l = [] ∨ Lib.decDigits (rdL l 0).toNat ≠ l then -1 else rdL l 0
theorem rdN_dec : ∀ n : Fin 16, rdN (Lib.decDigits n.val) = (n.val : Int) := by decide +kernel
theorem rdN_iff {l : List UInt8} {x : Int} (h : 0 ≤ x ∧ x ≤ 15) : rdN l = x ↔ l = Lib.decDigits x.toNat := by
  constructor
  · intro e
    unfold rdN at e
    split at e
    · omega
    · split at e
      · omega
      · rename_i h2
        rw [not_or, Classical.not_not] at h2
        rw [← e]
        exact h2.2.symm
  · intro e
    have := rdN_dec ⟨x.toNat, by omega⟩
    simp only at this
    rw [e, this]
    omega
/-- the number that a text is, of the program -/
def prN (l : List UInt8) : Option Int := match Lib.atoiAll l with
  | .ok x => if Lib.itoa x = l then some x else none
  | _ => none
theorem prN_dec : ∀ n : Fin 16, prN (Lib.decDigits n.val) = some (n.val : Int) := by decide +kernel
theorem prN_nil : prN [] = none := rfl
theorem prN_iff {l : List UInt8} {x : Int} (h : 0 ≤ x ∧ x ≤ 15) : prN l = some x ↔ l = Lib.decDigits x.toNat := by
  constructor
  · intro e
    unfold prN at e
    split at e
    · split at e
      · rename_i h2
        cases e
        rw [← h2]
        unfold Lib.itoa
        rw [if_neg (by omega)]
      · cases e
    · cases e
  · intro e
    have := prN_dec ⟨x.toNat, by omega⟩
    simp only at this
    rw [e, this]
    congr 1
    omega
def prL : List (List UInt8) → Option (List Int)
  | [] => some []
  | p :: ps => match prN p with
    | none => none
    | some x => match prL ps with
      | none => none
      | some xs => some (x :: xs)
theorem prL_iff : ∀ {ps : List (List UInt8)} {zs : List Int}, (∀ z ∈ zs, 0 ≤ z ∧ z ≤ 15) → (prL ps = some zs ↔ ps = zs.map fun x => Lib.decDigits x.toNat)
  | [], zs, _ => by
    constructor
    · intro e; cases e; rfl
    · intro e
      have : zs = [] := by simpa using e.symm
      subst this; rfl
  | p :: ps, zs, h => by
    constructor
    · intro e
      unfold prL at e
      split at e
      · cases e
      · rename_i x hx
        split at e
        · cases e
        · rename_i xs hxs
          cases e
          rw [List.map_cons, (prN_iff (h x (by simp))).1 hx, (prL_iff (fun z hz => h z (by simp [hz]))).1 hxs]
    · intro e
      cases zs with
      | nil => cases e
      | cons z zs =>
        rw [List.map_cons, List.cons.injEq] at e
        unfold prL
        rw [(prN_iff (h z (by simp))).2 e.1]
        simp only
        rw [(prL_iff (fun y hy => h y (by simp [hy]))).2 e.2]
theorem rdM_iff : ∀ {ps : List (List UInt8)} {zs : List Int}, (∀ z ∈ zs, 0 ≤ z ∧ z ≤ 15) → (ps.map rdN = zs ↔ ps = zs.map fun x => Lib.decDigits x.toNat)
  | [], zs, _ => by
    constructor
    · intro e; rw [← e]; rfl
    · intro e
      have : zs = [] := by simpa using e.symm
      subst this; rfl
  | p :: ps, [], _ => by simp
  | p :: ps, z :: zs, h => by
    rw [List.map_cons, List.map_cons, List.cons.injEq, List.cons.injEq, rdN_iff (h z (by simp)), rdM_iff (fun y hy => h y (by simp [hy]))]
/-- l is the text of a valid space -/
def TS (l : List UInt8) (n : Int) (zs : List Int) : Prop := Valid n zs ∧ l = Lib.decDigits n.toNat ++ 58 :: Lib.join (zs.map fun x => Lib.decDigits x.toNat) [44]
theorem dec_clean : ∀ n : Fin 16, ¬ (58 : UInt8) ∈ Lib.decDigits n.val ∧ ¬ (44 : UInt8) ∈ Lib.decDigits n.val := by decide +kernel
theorem dec_of {x : Int} (h : 0 ≤ x ∧ x ≤ 15) : ¬ (58 : UInt8) ∈ Lib.decDigits x.toNat ∧ ¬ (44 : UInt8) ∈ Lib.decDigits x.toNat := dec_clean ⟨x.toNat, by omega⟩
theorem join_clean {c d : UInt8} (hcd : c ≠ d) : ∀ ls : List (List UInt8), (∀ l ∈ ls, ¬ c ∈ l) → ¬ c ∈ Lib.join ls [d]
  | [], _ => by simp [Lib.join_nil]
  | [x], h => by rw [Lib.join_one]; exact h x (by simp)
  | x :: y :: r, h => by
    rw [join_cc]
    simp only [List.mem_append, List.mem_singleton, not_or]
    exact ⟨⟨h x (by simp), hcd⟩, join_clean hcd (y :: r) (fun l hl => h l (by simp only [List.mem_cons] at hl ⊢; exact .inr hl))⟩
theorem ts_facts {l : List UInt8} {n : Int} {zs : List Int} (h : TS l n zs) : spl 58 l = [Lib.decDigits n.toNat, Lib.join (zs.map fun x => Lib.decDigits x.toNat) [44]] ∧ spl 44 (Lib.join (zs.map fun x => Lib.decDigits x.toNat) [44]) = zs.map fun x => Lib.decDigits x.toNat := by
  obtain ⟨hV, rfl⟩ := h
  have hr := valid_range hV
  have hm : ∀ l ∈ (zs.map fun x => Lib.decDigits x.toNat), ¬ (58 : UInt8) ∈ l ∧ ¬ (44 : UInt8) ∈ l := fun l hl => by
    obtain ⟨x, hx, rfl⟩ := List.mem_map.1 hl
    exact dec_of (hr x hx)
  have hne : (zs.map fun x => Lib.decDigits x.toNat) ≠ [] := fun e => by
    have h0 := hV.2.1
    have : zs = [] := by simpa using e
    subst this; simp at h0
  refine ⟨?_, spl_join _ hne (fun l hl => (hm l hl).2)⟩
  rw [spl_app _ (dec_of (by have := hV.1; omega)).1, spl_none (join_clean (by decide) _ (fun l hl => (hm l hl).1))]
/-- what the model reads -/
def parS (l : List UInt8) : Option (Int × List Int) := match spl 58 l with
  | [h, t] => if vsB (rdN h) ((spl 44 t).map rdN) = true then some (rdN h, (spl 44 t).map rdN) else none
  | _ => none
theorem parS_iff {l : List UInt8} {n : Int} {zs : List Int} : parS l = some (n, zs) ↔ TS l n zs := by
  constructor
  · intro e
    unfold parS at e
    split at e
    · rename_i h t hs
      split at e
      · rename_i hv
        simp only [Option.some.injEq, Prod.mk.injEq] at e
        obtain ⟨e1, e2⟩ := e
        rw [e1, e2] at hv
        have hV := valid_of hv
        have hr := valid_range hV
        have h1 := (rdN_iff (by have := hV.1; omega)).1 e1
        have h2 := (rdM_iff hr).1 e2
        refine ⟨hV, ?_⟩
        have h3 := join_spl 58 l
        rw [hs, join_cc, Lib.join_one] at h3
        have h4 := join_spl 44 t
        rw [h2] at h4
        rw [← h3, h1, ← h4]
        simp
      · cases e
    · cases e
  · intro h
    obtain ⟨f1, f2⟩ := ts_facts h
    have hV := h.1
    have hr := valid_range hV
    unfold parS
    rw [f1]
    simp only
    rw [f2, (rdN_iff (x := n) (by have := hV.1; omega)).2 rfl, (rdM_iff hr).2 rfl, if_pos (vsB_true hV)]
/-- what the program reads -/
def parI (l : List UInt8) : Option (Int × List Int) := match prN (Lib.cut l [58]).1, prL (spl 44 (Lib.cut l [58]).2.1) with
  | some n, some zs => if vsB n zs = true then some (n, zs) else none
  | _, _ => none
theorem parI_iff {l : List UInt8} {n : Int} {zs : List Int} : parI l = some (n, zs) ↔ TS l n zs := by
  constructor
  · intro e
    rcases cut_spl 58 l with ⟨hn, hc⟩ | ⟨a, b, rfl, hn, hc⟩
    · unfold parI at e
      rw [hc] at e
      simp only [spl, prL, prN_nil] at e
      split at e
      · rename_i h2; cases h2
      · cases e
    · unfold parI at e
      rw [hc] at e
      simp only at e
      split at e
      · rename_i x xs hx hxs
        split at e
        · rename_i hv
          cases e
          have hV := valid_of hv
          have hr := valid_range hV
          have h1 := (prN_iff (by have := hV.1; omega)).1 hx
          have h2 := (prL_iff hr).1 hxs
          have h4 := join_spl 44 b
          rw [h2] at h4
          exact ⟨hV, by rw [h1, h4]⟩
        · cases e
      · cases e
  · intro h
    obtain ⟨f1, f2⟩ := ts_facts h
    have hV := h.1
    have hr := valid_range hV
    rcases cut_spl 58 l with ⟨hn, hc⟩ | ⟨a, b, rfl, hn, hc⟩
    · rw [spl_none hn] at f1; cases f1
    · rw [spl_app _ hn] at f1
      simp only [List.cons.injEq] at f1
      have hb := join_spl 58 b
      rw [f1.2, Lib.join_one] at hb
      unfold parI
      rw [hc]
      simp only
      rw [f1.1, ← hb, f2, (prN_iff (x := n) (by have := hV.1; omega)).2 rfl, (prL_iff hr).2 rfl]
      simp only
      rw [if_pos (vsB_true hV)]
theorem par_same (l : List UInt8) : parI l = parS l := by
  cases h : parS l with
  | some p =>
    obtain ⟨n, zs⟩ := p
    exact parI_iff.2 (parS_iff.1 h)
  | none =>
    cases h2 : parI l with
    | none => rfl
    | some p =>
      obtain ⟨n, zs⟩ := p
      rw [parS_iff.2 (parI_iff.1 h2)] at h
      cases h
end Go.Proofs.YtgebplpbnaeckaaGreatDoor

/- PrsS: Reading texts, of the model: its small functions. -/
namespace Go.Proofs.YtgebplpbnaeckaaGreatDoor
open Go.RowKit Go.Joins

theorem dec_step {n : Nat} (h : 10 ≤ n) : Lib.decDigits n = Lib.decDigits (n / 10) ++ Lib.decDigits (n % 10) := by
  rw [Lib.decDigits, dif_neg (by omega)]
  congr 1
  rw [Lib.decDigits, dif_pos (by omega)]
theorem numS_step {n : Nat} (h : 10 ≤ n) : numS (n / 10) ++ numS (n % 10) = numS n := by
  unfold numS
  rw [ByteArray.mk_append_mk, dec_step h]
theorem dec_len : ∀ n : Nat, (Lib.decDigits n).length ≤ n + 1 := by
  intro n
  induction n using Nat.strongRecOn with
  | ind n ih =>
    by_cases h : n < 10
    · rw [Lib.decDigits, dif_pos h]; simp
    · rw [Lib.decDigits, dif_neg h, List.length_append]
      have := ih (n / 10) (by omega)
      simp only [List.length_cons, List.length_nil]
      omega
theorem numS_len (n : Nat) : (numS n).size ≤ n + 1 := by
  have := dec_len n
  show (Lib.decDigits n).toArray.size ≤ _
  rw [List.size_toArray]; exact this
set_option maxRecDepth 100000 in
theorem number_all : ∀ (n : Nat), n ≤ 1000000 → ∀ (S : ByteArray) (w : World), numS n = S → Calls Tryz.prog 28 #[.int .i64 n] w fun e w' => e = .returned (.string S) ∧ w = w' := by
  intro n
  induction n using Nat.strongRecOn with
  | ind n ih =>
    intro hn S w hS
    by_cases h10 : n < 10
    · rw [← hS]; exact number_one n w h10
    · have e := numS_step (n := n) (by omega)
      rw [hS] at e
      have h1 : Int.tdiv (n : Int) 10 = ((n / 10 : Nat) : Int) := by rw [Int.tdiv_eq_ediv_of_nonneg (by omega)]; omega
      have h2 : Int.tmod (n : Int) 10 = ((n % 10 : Nat) : Int) := by rw [Int.tmod_eq_emod_of_nonneg (by omega)]; omega
      have l1 := numS_len (n / 10)
      have l2 := numS_len (n % 10)
      have HQ := hide (ih (n / 10) (by omega) (by omega))
      have hr10 : n % 10 < 10 := by omega
      have hq10 : n / 10 ≤ 100000 := by omega
      obtain ⟨q, hq⟩ : ∃ q, n / 10 = q := ⟨_, rfl⟩
      obtain ⟨r, hr⟩ : ∃ r, n % 10 = r := ⟨_, rfl⟩
      rw [hq] at h1 e l1 HQ hq10
      rw [hr] at h2 e l2 hr10
      have HB : Hid (∀ (x : Nat) (w : World), x = q ∨ x = r → Calls Tryz.prog 28 #[.int .i64 x] w fun e w' => e = .returned (.string (numS x)) ∧ w = w') := fun x w h => by
        rcases h with rfl | rfl
        · exact HQ.out _ w rfl
        · exact number_one _ w hr10
      have HE := hide e
      have hn : ¬ ((n : Int) < 10) := by omega
      have hsz : ¬ 9223372036854775807 < (numS q).size + (numS r).size := by omega
      clear e hq hr ih hS l1 l2
      go_enter Tryz.func28, Tryz.ntmps28
      go_wp2_with (go_at_call 28; refine (HB.out _ _ (by first | exact .inl rfl | exact .inr rfl)).mono ?_; rintro e w' ⟨rfl, rfl⟩)
      rw [HE.out]
      go_ret
      exact ⟨rfl, rfl⟩
theorem rdL_bad {b : UInt8} {r : List UInt8} {n : Nat} (h : b.toNat < 48 ∨ 57 < b.toNat ∨ 1000 < n) : rdL (b :: r) n = -1 := if_pos h
theorem rdL_go {b : UInt8} {r : List UInt8} {n : Nat} (h : ¬ (b.toNat < 48 ∨ 57 < b.toNat ∨ 1000 < n)) : rdL (b :: r) n = rdL r (10 * n + (b.toNat - 48)) := if_neg h
theorem rdN_bad {l : List UInt8} (h : rdL l 0 = -1) : rdN l = -1 := by unfold rdN; rw [h]; rfl
theorem rdN_end {l : List UInt8} {n : Nat} (h : rdL l 0 = rdL [] n) (hc : l = [] ∨ Lib.decDigits n ≠ l) : rdN l = -1 := by
  unfold rdN
  rw [h]
  show (if ((n : Nat) : Int) < 0 then _ else _) = _
  rw [if_neg (by omega), show (rdL [] n).toNat = n from Int.toNat_natCast n, if_pos hc]
theorem rdN_fine {l : List UInt8} {n : Nat} (h : rdL l 0 = rdL [] n) (h0 : ¬ l = []) (hc : Lib.decDigits n = l) : rdN l = n := by
  unfold rdN
  rw [h]
  show (if ((n : Nat) : Int) < 0 then _ else _) = _
  rw [if_neg (by omega), show (rdL [] n).toNat = n from Int.toNat_natCast n, if_neg (by rw [not_or]; exact ⟨h0, fun e => e hc⟩)]
  rfl
set_option maxHeartbeats 1000000 in
theorem readNumber_any (s : ByteArray) (w : World) (hs : s.size ≤ 1048576) :
    Calls Tryz.prog 59 #[.string s] w fun e w' => e = .returned (.int .i64 (rdN s.data.toList)) ∧ w = w' := by
  have hlen : s.data.toList.length = s.size := Array.length_toList
  go_enter Tryz.func59, Tryz.ntmps59
  go_wp2_with fail
  go_loop [3, 4] (fun v i => ∃ k n : Nat, k ≤ s.size ∧ i = .int .i64 k ∧ v = .int .i64 n ∧ n ≤ 10009 ∧ Hid (rdL s.data.toList 0 = rdL (s.data.toList.drop k) n)) (fun _ i => s.size - (intOf i).toNat)
  case atStart => exact ⟨0, 0, Nat.zero_le _, rfl, rfl, by decide, rfl⟩
  case round =>
    obtain ⟨k, n, hk, rfl, rfl, hn, HL⟩ := hrel
    by_cases hlt : k < s.size
    · have hd := List.drop_eq_getElem_cons (l := s.data.toList) (i := k) (by omega)
      have hsb : s.data.toList[k]'(by omega) = s[k] := rfl
      rw [hsb] at hd
      obtain ⟨y, hy⟩ : ∃ y, s[k].toNat = y := ⟨_, rfl⟩
      have hd2 := HL.out
      rw [hd] at hd2
      have HBAD : Hid ((s[k].toNat < 48 ∨ 57 < s[k].toNat ∨ 1000 < n) → rdL s.data.toList 0 = -1) := fun h => hd2.trans (rdL_bad h)
      have HGO : Hid (¬ (s[k].toNat < 48 ∨ 57 < s[k].toNat ∨ 1000 < n) → rdL s.data.toList 0 = rdL (s.data.toList.drop (k + 1)) (10 * n + (s[k].toNat - 48))) := fun h => hd2.trans (rdL_go h)
      rw [hy] at HBAD HGO
      clear hd hd2 hsb
      by_cases h1 : y < 48
      · have HR := hide (rdN_bad (HBAD.out (.inl h1)))
        have h1' : (y : Int) < 48 := by omega
        go_wp2
        go_ret
        rw [HR.out]
        exact ⟨rfl, rfl⟩
      · by_cases h2 : 57 < y
        · have HR := hide (rdN_bad (HBAD.out (.inr (.inl h2))))
          have h1' : ¬ (y : Int) < 48 := by omega
          have h2' : (57 : Int) < (y : Int) := by omega
          go_wp2
          go_ret
          rw [HR.out]
          exact ⟨rfl, rfl⟩
        · by_cases h3 : 1000 < n
          · have HR := hide (rdN_bad (HBAD.out (.inr (.inr h3))))
            have h1' : ¬ (y : Int) < 48 := by omega
            have h2' : ¬ (57 : Int) < (y : Int) := by omega
            have h3' : (1000 : Int) < (n : Int) := by omega
            go_wp2
            go_ret
            rw [HR.out]
            exact ⟨rfl, rfl⟩
          · have HR := hide (HGO.out (by omega))
            have h1' : ¬ (y : Int) < 48 := by omega
            have h2' : ¬ (57 : Int) < (y : Int) := by omega
            have h3' : ¬ (1000 : Int) < (n : Int) := by omega
            obtain ⟨z, rfl⟩ : ∃ z, y = 48 + z := ⟨y - 48, by omega⟩
            rw [show 48 + z - 48 = z from by omega] at HR
            go_wp2
            go_round
            case rel => exact ⟨k + 1, 10 * n + z, by omega, by go_num, by go_num, by omega, HR.out⟩
            case measure => simp only [intOf]; omega
    · obtain rfl : k = s.size := by omega
      have hl := HL.out
      rw [List.drop_of_length_le (by omega)] at hl
      have HS := hide (number_all n (by omega))
      have HL := hide hl
      clear hl
      go_wp2_with (go_at_call 28; refine (HS.out _ _ rfl).mono ?_; rintro e w' ⟨rfl, rfl⟩)
      · rename_i hz _
        go_ret
        refine ⟨?_, rfl⟩
        rw [ByteArray.toList_eq] at hz
        rw [hz]
        rfl
      · rename_i hz _ hc
        go_ret
        refine ⟨?_, rfl⟩
        rw [ByteArray.toList_eq] at hz hc
        rw [rdN_end HL.out (.inr (fun e => by
          rcases hc with hc | hc
          · exact hz (List.isEmpty_iff.1 hc)
          · rw [ByteArray.toList_eq, ← e] at hc
            simp [numS] at hc))]
        rfl
      · rename_i hz _ hc
        go_ret
        refine ⟨?_, rfl⟩
        rw [ByteArray.toList_eq] at hz hc
        rw [rdN_fine HL.out hz (by
          have h3 := hc.2
          rw [ByteArray.toList_eq] at h3
          simpa [numS] using h3)]
        rfl
theorem str_u {s : ByteArray} : ∀ u ∈ [Value.string s], u.oneCell' = true := by intro u hu; simp at hu; subst hu; rfl
theorem extract_list (s : ByteArray) (a b : Nat) : (s.extract a b).data.toList = (s.data.toList.drop a).take (b - a) := by
  simp only [ByteArray.data_extract, Array.toList_extract]
/-- how far a text is cut -/
def CutTo (c : UInt8) (l : List UInt8) (D : List ByteArray) (f i : Nat) : Prop := f ≤ i ∧ spl c l = D.map (·.data.toList) ++ spl c (l.drop f) ∧ ¬ c ∈ (l.drop f).take (i - f) ∧ D.length ≤ i
theorem cut_zero (c : UInt8) (l : List UInt8) : CutTo c l [] 0 0 := ⟨Nat.le_refl _, by simp, by simp, Nat.zero_le _⟩
theorem cut_miss {c : UInt8} {l : List UInt8} {D : List ByteArray} {f i : Nat} (h : CutTo c l D f i) (hi : i < l.length) (hc : l[i] ≠ c) : CutTo c l D f (i + 1) := by
  obtain ⟨h1, h2, h3, h4⟩ := h
  refine ⟨by omega, h2, ?_, by omega⟩
  have hk : i - f < (l.drop f).length := by rw [List.length_drop]; omega
  rw [show i + 1 - f = i - f + 1 from by omega, List.take_succ_eq_append_getElem hk, List.mem_append, not_or]
  refine ⟨h3, ?_⟩
  rw [List.mem_singleton, List.getElem_drop]
  simp only [show f + (i - f) = i from by omega]
  exact fun e => hc e.symm
theorem cut_hit {c : UInt8} {s : ByteArray} {D : List ByteArray} {f i : Nat} (h : CutTo c s.data.toList D f i) (hi : i < s.data.toList.length) (hc : s.data.toList[i] = c) : CutTo c s.data.toList (D ++ [s.extract f i]) (i + 1) (i + 1) := by
  obtain ⟨h1, h2, h3, h4⟩ := h
  refine ⟨Nat.le_refl _, ?_, by simp, by simp; omega⟩
  have hd : s.data.toList.drop f = (s.data.toList.drop f).take (i - f) ++ c :: s.data.toList.drop (i + 1) := by
    have e1 := (List.take_append_drop (i - f) (s.data.toList.drop f)).symm
    rw [List.drop_drop, show f + (i - f) = i from by omega, List.drop_eq_getElem_cons hi, hc] at e1
    exact e1
  rw [h2, List.map_append, List.map_singleton, extract_list, List.append_assoc]
  congr 1
  conv => lhs; rw [hd]
  rw [spl_app _ h3]
  rfl
theorem cut_end {c : UInt8} {s : ByteArray} {D : List ByteArray} {f : Nat} (h : CutTo c s.data.toList D f s.size) : spl c s.data.toList = (D ++ [s.extract f s.size]).map (·.data.toList) := by
  obtain ⟨h1, h2, h3, h4⟩ := h
  have hl : s.data.toList.length = s.size := Array.length_toList
  rw [h2, List.map_append, List.map_singleton, extract_list]
  congr 1
  have ht : (s.data.toList.drop f).take (s.size - f) = s.data.toList.drop f := List.take_of_length_le (by rw [List.length_drop]; omega)
  rw [ht] at h3 ⊢
  exact spl_none h3
/-- a slice of texts that a call has made -/
def OwnsT (w : World) (base : Nat) (v : Value) (ps : List ByteArray) : Prop := w.ownsRow base 9 1 v ps.length (ps.map Value.string)
set_option maxHeartbeats 1000000 in
theorem splitAt_any (s : ByteArray) (c : UInt8) (w : World) (hs : s.size ≤ 1048576) :
    Calls Tryz.prog 34 #[.string s, .int .u8 c.toNat] w fun e w' => (∃ v ps, e = .returned v ∧ OwnsT w' w.heap.size v ps ∧ ps.map (·.data.toList) = spl c s.data.toList ∧ ps.length ≤ s.size + 1) ∧ Below w.heap.size w w' := by
  obtain ⟨i0, hi0, hz0, hz1, hz2⟩ := info_parts info_string
  have hlen : s.data.toList.length = s.size := Array.length_toList
  have ho := World.ownsRow_lit (base := w.heap.size) (e := 9) (size := 1) w #[] 0 (Nat.le_refl _) (by simp) rfl
  have bb := bel1 w (.cells #[] 9)
  go_enter Tryz.func34, Tryz.ntmps34
  go_wp2_with fail
  go_loopw [5, 6, 7] (fun v fv iv wr => ∃ (D : List ByteArray) (f i : Nat), i ≤ s.size ∧ fv = .int .i64 f ∧ iv = .int .i64 i ∧ wr.ownsRow w.heap.size 9 1 v D.length (D.map Value.string) ∧ Hid (CutTo c s.data.toList D f i) ∧ Below w.heap.size w wr) (fun _ _ i _ => s.size - (intOf i).toNat)
  case atStart => exact ⟨[], 0, 0, Nat.zero_le _, rfl, rfl, ho, cut_zero _ _, bb⟩
  case round =>
    clear ho bb
    obtain ⟨D, f, i, hi, rfl, rfl, own, HC, BR⟩ := hrel
    have hfi := HC.out.1
    have hDi := HC.out.2.2.2
    have hszr := BR.size
    by_cases hlt : i < s.size
    · have hsb : s.data.toList[i]'(by omega) = s[i] := rfl
      by_cases hc : s[i] = c
      · have HH := hide (cut_hit HC.out (by omega) (hsb.trans hc))
        have hcc : ((s[i].toNat : Int) == (c.toNat : Int)) = true := by rw [hc]; simp
        obtain ⟨E, hE⟩ : ∃ E, E = s.extract f i := ⟨_, rfl⟩
        rw [← hE] at HH
        go_wp2_with ((at_builtin; refine wpList_append_own _ rfl _ _ 23 rfl w.heap.size 9 i0 (.string ⟨#[]⟩) 1 16 Tryz.underlying23 hi0 hz0 hz1 hz2 rfl (by decide) _ D.length _ rfl (own.alloc _) ⟨wr.heap.size, 0, none⟩ 1 1 [.string (s.extract f i)] rfl rfl (cell_one_new _ _ _) str_u (by unfold maxLen; omega) (by omega) (by simp; omega) ?_))
        intro v' w2 hown2 hgrow _
        have hbel := hide ((BR.alloc hszr (.cells #[.string (s.extract f i)] 9)).grown hgrow (by simp; omega) (fun k hk => (World.ownsRow.lt own k hk).1))
        have HO : Hid (w2.ownsRow w.heap.size 9 1 v' (D ++ [E]).length ((D ++ [E]).map Value.string)) := by
          unfold Hid
          rw [List.length_append, List.map_append, hE]
          exact hown2
        clear hown2 hgrow own BR hsb hcc
        go_wp2
        go_roundw
        case rel => exact ⟨D ++ [E], i + 1, i + 1, by omega, by go_num, by go_num, HO.out, HH.out, hbel.out⟩
        case measure => simp only [intOf]; omega
      · have HH := hide (cut_miss HC.out (by omega) (fun e => hc (hsb.symm.trans e)))
        have hcc : ((s[i].toNat : Int) == (c.toNat : Int)) = false := by
          rw [beq_eq_false_iff_ne]
          intro e
          exact hc (UInt8.toNat_inj.1 (by omega))
        clear hsb
        go_wp2
        go_roundw
        case rel => exact ⟨D, f, i + 1, by omega, rfl, by go_num, own, HH.out, BR⟩
        case measure => simp only [intOf]; omega
    · obtain rfl : i = s.size := by omega
      have HE := hide (cut_end HC.out)
      go_wp2_with ((at_builtin; refine wpList_append_own _ rfl _ _ 23 rfl w.heap.size 9 i0 (.string ⟨#[]⟩) 1 16 Tryz.underlying23 hi0 hz0 hz1 hz2 rfl (by decide) _ D.length _ rfl (own.alloc _) ⟨wr.heap.size, 0, none⟩ 1 1 [.string (s.extract f s.size)] rfl rfl (cell_one_new _ _ _) str_u (by unfold maxLen; omega) (by omega) (by simp; omega) ?_))
      intro v' w2 hown2 hgrow _
      have hbel := hide ((BR.alloc hszr (.cells #[.string (s.extract f s.size)] 9)).grown hgrow (by simp; omega) (fun k hk => (World.ownsRow.lt own k hk).1))
      have HO : Hid (OwnsT w2 w.heap.size v' (D ++ [s.extract f s.size])) := by
        unfold Hid OwnsT
        rw [List.length_append, List.map_append]
        exact hown2
      have hDl : (D ++ [s.extract f s.size]).length ≤ s.size + 1 := by rw [List.length_append]; simp only [List.length_cons, List.length_nil]; omega
      clear hown2 hgrow own BR
      go_wp2
      go_ret
      exact ⟨⟨v', _, rfl, HO.out, HE.out.symm, hDl⟩, hbel.out⟩
end Go.Proofs.YtgebplpbnaeckaaGreatDoor

/- Mark: Marks: writing numbers into a slice that a call has made, and looking whether they are still there. -/
namespace Go.Proofs.YtgebplpbnaeckaaGreatDoor
open Go.RowKit Go.Joins

/-- the numbers k, k+1, .. -/
def marks (k : Int) (n : Nat) : List Int := (List.range n).map fun (i : Nat) => k + (i : Int)
theorem marks_length (k : Int) (n : Nat) : (marks k n).length = n := by simp [marks]
theorem marks_getD (k : Int) (n i : Nat) (h : i < n) : (marks k n).getD i 0 = k + (i : Int) := by
  simp [marks, List.getD_eq_getElem?_getD, h]

theorem gtrans {a b c : World} {row : Option Nat} (h : a.grownBy b row) (h' : b.grownBy c row) : a.grownBy c row :=
  ⟨h'.os.trans h.os, h'.tape.trans h.tape, h'.output.trans h.output, Nat.le_trans h.size h'.size, fun k hk hne => (h'.block k (Nat.lt_of_lt_of_le hk h.size) hne).trans (h.block k hk hne)⟩


/-- all of a list are the numbers k, k+1, .. -/
def heldV (zs : List Int) (k : Int) : Int := if zs = marks k zs.length then k + zs.length else -1



end Go.Proofs.YtgebplpbnaeckaaGreatDoor

/- Apt: An append to a slice that a call has made, told where the new one lies (as Apart, beside spaces). -/
namespace Go.Proofs.YtgebplpbnaeckaaGreatDoor
open Go.RowKit Go.Joins

def lenW : Value → Nat
  | .slice _ n _ => n
  | _ => 0
theorem owns_of_row {w : World} {B n : Nat} {v : Value} {zs : List Int} (h : w.ownsRow B 3 1 v n (zs.map (Value.int .i64))) (hz : zs.length = n) : Owns w B v zs := by
  subst hz; exact h
theorem row_of_owns {w : World} {B n : Nat} {v : Value} {zs : List Int} (h : Owns w B v zs) (hz : zs.length = n) : w.ownsRow B 3 1 v n (zs.map (Value.int .i64)) := by
  subst hz; exact h
theorem grown_weak {w w' : World} {row : Option Nat} (h : w.grownBy w' none) : w.grownBy w' row := ⟨h.os, h.tape, h.output, h.size, fun k hk _ => h.block k hk (by simp)⟩
theorem wpList_append_apart {P : Program} (w : World) {ops : Array Oper} {rest : List Oper} {o : Oper} {a : Act} {Q : Exit → Act → World → Prop} (hgd : o.guard = none) (s x : Operand) (t : TypeId)
    (ho : o.op = .call { callee := .builtin .append, args := #[s, x], argTypes := #[t, t] })
    (base : Nat) (e : TypeId) (i : TypeInfo) (z : Value) (size bytes : Nat) (ht : P.underlying t = some (.slice e)) (hi : P.info? e = some i) (hz : i.zero = some z)
    (hsize : i.size = size) (hby : i.bytes = bytes) (hzs : z.cells.size = size) (hsz : 0 < size)
    (v : Value) (n : Nat) (xs : List Value) (hs : a.eval s = v) (hown : w.ownsRow base e size v n xs)
    (ad : Addr) (m c : Nat) (news : List Value) (hx : a.eval x = .slice (some ad) m c) (hl : news.length = m * size) (hnews : ∀ j u, news[j]? = some u → w.cell? (ad.add j) = some u) (h1 : ∀ u ∈ news, u.oneCell' = true) (hm : 0 < m)
    (h63 : n + m ≤ maxLen) (hbytes : (n + m) * bytes ≤ 140737488355328) (hbase : base ≤ w.heap.size)
    (h : ∀ v' w', w'.ownsRow base e size v' (n + m) (xs ++ news) → w.grownBy w' v.ownBlock → (∀ g, g < w.heap.size → v.ownBlock ≠ some g → v'.ownBlock ≠ some g) → wpList P ops Q rest (a.put o.dst v') w') : wpList P ops Q (o :: rest) a w := by
  have new : ∀ v' (w' : World), w'.ownsRow w.heap.size e size v' (n + m) (xs ++ news) → w.grownBy w' none → wpList P ops Q rest (a.put o.dst v') w' := fun v' w' o1 g1 => by
    have hn : ∀ k, v'.ownBlock = some k → w.heap.size ≤ k := fun k hk => (World.ownsRow.lt o1 k hk).1
    refine h v' w' (ownsRow_le o1 hbase) (grown_weak g1) (fun g hg _ e' => by have := hn g e'; omega)
  have hlen : xs.length = n * size := hown.1
  rcases hown.2 with ⟨h0, h00⟩ | ⟨g, cap, cur, hv, hb, hh, k1, k2, k3, k4⟩
  · have hz0 : n = 0 := by simpa using h00
    exact wpList_append_grows w hgd s x t ho e i z size bytes ht hi hz hsize hby hzs hsz none n 0 xs (by rw [hs, h0, hz0]) (fun _ => ⟨hz0, rfl⟩) hlen (fun b e => by cases e) ad m c news hx hl hnews h1 (by omega) h63 hbytes fun v' w' o1 g1 => new v' w' o1 g1
  · subst hv
    by_cases hroom : n + m ≤ cap
    · exact wpList_append_fits w hgd s x t ho base e i size ht hi hsize g n cap xs hs hown ad m c news hx hl hnews h1 hroom fun w' o1 g1 => h _ w' o1 g1 (fun g' _ hne => hne)
    · exact wpList_append_grows w hgd s x t ho e i z size bytes ht hi hz hsize hby hzs hsz (some ⟨g, 0, none⟩) n cap xs hs (fun e => by cases e) hlen (fun b e j u hu => by
        cases e
        have hl := (List.getElem?_eq_some_iff.1 hu).1
        have e1 : (⟨g, 0, none⟩ : Addr).add j = ⟨g, j, none⟩ := by
          unfold Addr.add
          by_cases h : j = 0 <;> simp [h]
        rw [e1, hown.cellAt j (by omega)]
        exact hu) ad m c news hx hl hnews h1 (by omega) h63 hbytes fun v' w' o1 g1 => new v' w' o1 g1
end Go.Proofs.YtgebplpbnaeckaaGreatDoor
