/- Reading texts, of the model: its small functions. -/
import Derived.Test.YtcnoipghepjodaaDoorPrsN
import Derived.Deep.DeepAppendRoom
namespace Go.Proofs.YtcnoipghepjodaaDoor
open Go.RowKit Go.Joins

theorem dec_step {n : Nat} (h : 10 ≤ n) : Lib.decDigits n = Lib.decDigits (n / 10) ++ Lib.decDigits (n % 10) := by
  rw [Lib.decDigits, dif_neg (by omega)]
  congr 1
  rw [Lib.decDigits, dif_pos (by omega)]
theorem numS_step {n : Nat} (h : 10 ≤ n) : numS (n / 10) ++ numS (n % 10) = numS n := by
  unfold numS
  rw [ByteArray.mk_append_mk, dec_step h]
theorem dec_len : ∀ n : Nat, (Lib.decDigits n).length ≤ n + 1 := by
  intro n
  induction n using Nat.strongRecOn with
  | ind n ih =>
    by_cases h : n < 10
    · rw [Lib.decDigits, dif_pos h]; simp
    · rw [Lib.decDigits, dif_neg h, List.length_append]
      have := ih (n / 10) (by omega)
      simp only [List.length_cons, List.length_nil]
      omega
theorem numS_len (n : Nat) : (numS n).size ≤ n + 1 := by
  have := dec_len n
  show (Lib.decDigits n).toArray.size ≤ _
  rw [List.size_toArray]; exact this
set_option maxRecDepth 100000 in
theorem number_all : ∀ (n : Nat), n ≤ 1000000 → ∀ (S : ByteArray) (w : World), numS n = S → Calls Tryd.prog 25 #[.int .i64 n] w fun e w' => e = .returned (.string S) ∧ w = w' := by
  intro n
  induction n using Nat.strongRecOn with
  | ind n ih =>
    intro hn S w hS
    by_cases h10 : n < 10
    · rw [← hS]; exact number_one n w h10
    · have e := numS_step (n := n) (by omega)
      rw [hS] at e
      have h1 : Int.tdiv (n : Int) 10 = ((n / 10 : Nat) : Int) := by rw [Int.tdiv_eq_ediv_of_nonneg (by omega)]; omega
      have h2 : Int.tmod (n : Int) 10 = ((n % 10 : Nat) : Int) := by rw [Int.tmod_eq_emod_of_nonneg (by omega)]; omega
      have l1 := numS_len (n / 10)
      have l2 := numS_len (n % 10)
      have HQ := hide (ih (n / 10) (by omega) (by omega))
      have hr10 : n % 10 < 10 := by omega
      have hq10 : n / 10 ≤ 100000 := by omega
      obtain ⟨q, hq⟩ : ∃ q, n / 10 = q := ⟨_, rfl⟩
      obtain ⟨r, hr⟩ : ∃ r, n % 10 = r := ⟨_, rfl⟩
      rw [hq] at h1 e l1 HQ hq10
      rw [hr] at h2 e l2 hr10
      have HB : Hid (∀ (x : Nat) (w : World), x = q ∨ x = r → Calls Tryd.prog 25 #[.int .i64 x] w fun e w' => e = .returned (.string (numS x)) ∧ w = w') := fun x w h => by
        rcases h with rfl | rfl
        · exact HQ.out _ w rfl
        · exact number_one _ w hr10
      have HE := hide e
      have hn : ¬ ((n : Int) < 10) := by omega
      have hsz : ¬ 9223372036854775807 < (numS q).size + (numS r).size := by omega
      clear e hq hr ih hS l1 l2
      go_enter Tryd.func25, Tryd.ntmps25
      go_wp2_with (go_at_call 25; refine (HB.out _ _ (by first | exact .inl rfl | exact .inr rfl)).mono ?_; rintro e w' ⟨rfl, rfl⟩)
      rw [HE.out]
      go_ret
      exact ⟨rfl, rfl⟩
theorem rdL_bad {b : UInt8} {r : List UInt8} {n : Nat} (h : b.toNat < 48 ∨ 57 < b.toNat ∨ 1000 < n) : rdL (b :: r) n = -1 := if_pos h
theorem rdL_go {b : UInt8} {r : List UInt8} {n : Nat} (h : ¬ (b.toNat < 48 ∨ 57 < b.toNat ∨ 1000 < n)) : rdL (b :: r) n = rdL r (10 * n + (b.toNat - 48)) := if_neg h
theorem rdN_bad {l : List UInt8} (h : rdL l 0 = -1) : rdN l = -1 := by unfold rdN; rw [h]; rfl
theorem rdN_end {l : List UInt8} {n : Nat} (h : rdL l 0 = rdL [] n) (hc : l = [] ∨ Lib.decDigits n ≠ l) : rdN l = -1 := by
  unfold rdN
  rw [h]
  show (if ((n : Nat) : Int) < 0 then _ else _) = _
  rw [if_neg (by omega), show (rdL [] n).toNat = n from Int.toNat_natCast n, if_pos hc]
theorem rdN_fine {l : List UInt8} {n : Nat} (h : rdL l 0 = rdL [] n) (h0 : ¬ l = []) (hc : Lib.decDigits n = l) : rdN l = n := by
  unfold rdN
  rw [h]
  show (if ((n : Nat) : Int) < 0 then _ else _) = _
  rw [if_neg (by omega), show (rdL [] n).toNat = n from Int.toNat_natCast n, if_neg (by rw [not_or]; exact ⟨h0, fun e => e hc⟩)]
  rfl
set_option maxHeartbeats 1000000 in
theorem readNumber_any (s : ByteArray) (w : World) (hs : s.size ≤ 1048576) :
    Calls Tryd.prog 53 #[.string s] w fun e w' => e = .returned (.int .i64 (rdN s.data.toList)) ∧ w = w' := by
  have hlen : s.data.toList.length = s.size := Array.length_toList
  go_enter Tryd.func53, Tryd.ntmps53
  go_wp2_with fail
  go_loop [3, 4] (fun v i => ∃ k n : Nat, k ≤ s.size ∧ i = .int .i64 k ∧ v = .int .i64 n ∧ n ≤ 10009 ∧ Hid (rdL s.data.toList 0 = rdL (s.data.toList.drop k) n)) (fun _ i => s.size - (intOf i).toNat)
  case atStart => exact ⟨0, 0, Nat.zero_le _, rfl, rfl, by decide, rfl⟩
  case round =>
    obtain ⟨k, n, hk, rfl, rfl, hn, HL⟩ := hrel
    by_cases hlt : k < s.size
    · have hd := List.drop_eq_getElem_cons (l := s.data.toList) (i := k) (by omega)
      have hsb : s.data.toList[k]'(by omega) = s[k] := rfl
      rw [hsb] at hd
      obtain ⟨y, hy⟩ : ∃ y, s[k].toNat = y := ⟨_, rfl⟩
      have hd2 := HL.out
      rw [hd] at hd2
      have HBAD : Hid ((s[k].toNat < 48 ∨ 57 < s[k].toNat ∨ 1000 < n) → rdL s.data.toList 0 = -1) := fun h => hd2.trans (rdL_bad h)
      have HGO : Hid (¬ (s[k].toNat < 48 ∨ 57 < s[k].toNat ∨ 1000 < n) → rdL s.data.toList 0 = rdL (s.data.toList.drop (k + 1)) (10 * n + (s[k].toNat - 48))) := fun h => hd2.trans (rdL_go h)
      rw [hy] at HBAD HGO
      clear hd hd2 hsb
      by_cases h1 : y < 48
      · have HR := hide (rdN_bad (HBAD.out (.inl h1)))
        have h1' : (y : Int) < 48 := by omega
        go_wp2
        go_ret
        rw [HR.out]
        exact ⟨rfl, rfl⟩
      · by_cases h2 : 57 < y
        · have HR := hide (rdN_bad (HBAD.out (.inr (.inl h2))))
          have h1' : ¬ (y : Int) < 48 := by omega
          have h2' : (57 : Int) < (y : Int) := by omega
          go_wp2
          go_ret
          rw [HR.out]
          exact ⟨rfl, rfl⟩
        · by_cases h3 : 1000 < n
          · have HR := hide (rdN_bad (HBAD.out (.inr (.inr h3))))
            have h1' : ¬ (y : Int) < 48 := by omega
            have h2' : ¬ (57 : Int) < (y : Int) := by omega
            have h3' : (1000 : Int) < (n : Int) := by omega
            go_wp2
            go_ret
            rw [HR.out]
            exact ⟨rfl, rfl⟩
          · have HR := hide (HGO.out (by omega))
            have h1' : ¬ (y : Int) < 48 := by omega
            have h2' : ¬ (57 : Int) < (y : Int) := by omega
            have h3' : ¬ (1000 : Int) < (n : Int) := by omega
            obtain ⟨z, rfl⟩ : ∃ z, y = 48 + z := ⟨y - 48, by omega⟩
            rw [show 48 + z - 48 = z from by omega] at HR
            go_wp2
            go_round
            case rel => exact ⟨k + 1, 10 * n + z, by omega, by go_num, by go_num, by omega, HR.out⟩
            case measure => simp only [intOf]; omega
    · obtain rfl : k = s.size := by omega
      have hl := HL.out
      rw [List.drop_of_length_le (by omega)] at hl
      have HS := hide (number_all n (by omega))
      have HL := hide hl
      clear hl
      go_wp2_with (go_at_call 25; refine (HS.out _ _ rfl).mono ?_; rintro e w' ⟨rfl, rfl⟩)
      · rename_i hz _
        go_ret
        refine ⟨?_, rfl⟩
        rw [ByteArray.toList_eq] at hz
        rw [hz]
        rfl
      · rename_i hz _ hc
        go_ret
        refine ⟨?_, rfl⟩
        rw [ByteArray.toList_eq] at hz hc
        rw [rdN_end HL.out (.inr (fun e => by
          rcases hc with hc | hc
          · exact hz (List.isEmpty_iff.1 hc)
          · rw [ByteArray.toList_eq, ← e] at hc
            simp [numS] at hc))]
        rfl
      · rename_i hz _ hc
        go_ret
        refine ⟨?_, rfl⟩
        rw [ByteArray.toList_eq] at hz hc
        rw [rdN_fine HL.out hz (by
          have h3 := hc.2
          rw [ByteArray.toList_eq] at h3
          simpa [numS] using h3)]
        rfl
theorem str_u {s : ByteArray} : ∀ u ∈ [Value.string s], u.oneCell' = true := by intro u hu; simp at hu; subst hu; rfl
theorem extract_list (s : ByteArray) (a b : Nat) : (s.extract a b).data.toList = (s.data.toList.drop a).take (b - a) := by
  simp only [ByteArray.data_extract, Array.toList_extract]
/-- how far a text is cut -/
def CutTo (c : UInt8) (l : List UInt8) (D : List ByteArray) (f i : Nat) : Prop := f ≤ i ∧ spl c l = D.map (·.data.toList) ++ spl c (l.drop f) ∧ ¬ c ∈ (l.drop f).take (i - f) ∧ D.length ≤ i
theorem cut_zero (c : UInt8) (l : List UInt8) : CutTo c l [] 0 0 := ⟨Nat.le_refl _, by simp, by simp, Nat.zero_le _⟩
theorem cut_miss {c : UInt8} {l : List UInt8} {D : List ByteArray} {f i : Nat} (h : CutTo c l D f i) (hi : i < l.length) (hc : l[i] ≠ c) : CutTo c l D f (i + 1) := by
  obtain ⟨h1, h2, h3, h4⟩ := h
  refine ⟨by omega, h2, ?_, by omega⟩
  have hk : i - f < (l.drop f).length := by rw [List.length_drop]; omega
  rw [show i + 1 - f = i - f + 1 from by omega, List.take_succ_eq_append_getElem hk, List.mem_append, not_or]
  refine ⟨h3, ?_⟩
  rw [List.mem_singleton, List.getElem_drop]
  simp only [show f + (i - f) = i from by omega]
  exact fun e => hc e.symm
theorem cut_hit {c : UInt8} {s : ByteArray} {D : List ByteArray} {f i : Nat} (h : CutTo c s.data.toList D f i) (hi : i < s.data.toList.length) (hc : s.data.toList[i] = c) : CutTo c s.data.toList (D ++ [s.extract f i]) (i + 1) (i + 1) := by
  obtain ⟨h1, h2, h3, h4⟩ := h
  refine ⟨Nat.le_refl _, ?_, by simp, by simp; omega⟩
  have hd : s.data.toList.drop f = (s.data.toList.drop f).take (i - f) ++ c :: s.data.toList.drop (i + 1) := by
    have e1 := (List.take_append_drop (i - f) (s.data.toList.drop f)).symm
    rw [List.drop_drop, show f + (i - f) = i from by omega, List.drop_eq_getElem_cons hi, hc] at e1
    exact e1
  rw [h2, List.map_append, List.map_singleton, extract_list, List.append_assoc]
  congr 1
  conv => lhs; rw [hd]
  rw [spl_app _ h3]
  rfl
theorem cut_end {c : UInt8} {s : ByteArray} {D : List ByteArray} {f : Nat} (h : CutTo c s.data.toList D f s.size) : spl c s.data.toList = (D ++ [s.extract f s.size]).map (·.data.toList) := by
  obtain ⟨h1, h2, h3, h4⟩ := h
  have hl : s.data.toList.length = s.size := Array.length_toList
  rw [h2, List.map_append, List.map_singleton, extract_list]
  congr 1
  have ht : (s.data.toList.drop f).take (s.size - f) = s.data.toList.drop f := List.take_of_length_le (by rw [List.length_drop]; omega)
  rw [ht] at h3 ⊢
  exact spl_none h3
/-- a slice of texts that a call has made -/
def OwnsT (w : World) (base : Nat) (v : Value) (ps : List ByteArray) : Prop := w.ownsRow base 9 1 v ps.length (ps.map Value.string)
set_option maxHeartbeats 1000000 in
theorem splitAt_any (s : ByteArray) (c : UInt8) (w : World) (hs : s.size ≤ 1048576) :
    Calls Tryd.prog 52 #[.string s, .int .u8 c.toNat] w fun e w' => (∃ v ps, e = .returned v ∧ OwnsT w' w.heap.size v ps ∧ ps.map (·.data.toList) = spl c s.data.toList ∧ ps.length ≤ s.size + 1) ∧ Below w.heap.size w w' := by
  obtain ⟨i0, hi0, hz0, hz1, hz2⟩ := info_parts info_string
  have hlen : s.data.toList.length = s.size := Array.length_toList
  have ho := World.ownsRow_lit (base := w.heap.size) (e := 9) (size := 1) w #[] 0 (Nat.le_refl _) (by simp) rfl
  have bb := bel1 w (.cells #[] 9)
  go_enter Tryd.func52, Tryd.ntmps52
  go_wp2_with fail
  go_loopw [5, 6, 7] (fun v fv iv wr => ∃ (D : List ByteArray) (f i : Nat), i ≤ s.size ∧ fv = .int .i64 f ∧ iv = .int .i64 i ∧ wr.ownsRow w.heap.size 9 1 v D.length (D.map Value.string) ∧ Hid (CutTo c s.data.toList D f i) ∧ Below w.heap.size w wr) (fun _ _ i _ => s.size - (intOf i).toNat)
  case atStart => exact ⟨[], 0, 0, Nat.zero_le _, rfl, rfl, ho, cut_zero _ _, bb⟩
  case round =>
    clear ho bb
    obtain ⟨D, f, i, hi, rfl, rfl, own, HC, BR⟩ := hrel
    have hfi := HC.out.1
    have hDi := HC.out.2.2.2
    have hszr := BR.size
    by_cases hlt : i < s.size
    · have hsb : s.data.toList[i]'(by omega) = s[i] := rfl
      by_cases hc : s[i] = c
      · have HH := hide (cut_hit HC.out (by omega) (hsb.trans hc))
        have hcc : ((s[i].toNat : Int) == (c.toNat : Int)) = true := by rw [hc]; simp
        obtain ⟨E, hE⟩ : ∃ E, E = s.extract f i := ⟨_, rfl⟩
        rw [← hE] at HH
        go_wp2_with ((at_builtin; refine wpList_append_own _ rfl _ _ 61 rfl w.heap.size 9 i0 (.string ⟨#[]⟩) 1 16 Tryd.underlying61 hi0 hz0 hz1 hz2 rfl (by decide) _ D.length _ rfl (own.alloc _) ⟨wr.heap.size, 0, none⟩ 1 1 [.string (s.extract f i)] rfl rfl (cell_one_new _ _ _) str_u (by unfold maxLen; omega) (by omega) (by simp; omega) ?_))
        intro v' w2 hown2 hgrow _
        have hbel := hide ((BR.alloc hszr (.cells #[.string (s.extract f i)] 9)).grown hgrow (by simp; omega) (fun k hk => (World.ownsRow.lt own k hk).1))
        have HO : Hid (w2.ownsRow w.heap.size 9 1 v' (D ++ [E]).length ((D ++ [E]).map Value.string)) := by
          unfold Hid
          rw [List.length_append, List.map_append, hE]
          exact hown2
        clear hown2 hgrow own BR hsb hcc
        go_wp2
        go_roundw
        case rel => exact ⟨D ++ [E], i + 1, i + 1, by omega, by go_num, by go_num, HO.out, HH.out, hbel.out⟩
        case measure => simp only [intOf]; omega
      · have HH := hide (cut_miss HC.out (by omega) (fun e => hc (hsb.symm.trans e)))
        have hcc : ((s[i].toNat : Int) == (c.toNat : Int)) = false := by
          rw [beq_eq_false_iff_ne]
          intro e
          exact hc (UInt8.toNat_inj.1 (by omega))
        clear hsb
        go_wp2
        go_roundw
        case rel => exact ⟨D, f, i + 1, by omega, rfl, by go_num, own, HH.out, BR⟩
        case measure => simp only [intOf]; omega
    · obtain rfl : i = s.size := by omega
      have HE := hide (cut_end HC.out)
      go_wp2_with ((at_builtin; refine wpList_append_own _ rfl _ _ 61 rfl w.heap.size 9 i0 (.string ⟨#[]⟩) 1 16 Tryd.underlying61 hi0 hz0 hz1 hz2 rfl (by decide) _ D.length _ rfl (own.alloc _) ⟨wr.heap.size, 0, none⟩ 1 1 [.string (s.extract f s.size)] rfl rfl (cell_one_new _ _ _) str_u (by unfold maxLen; omega) (by omega) (by simp; omega) ?_))
      intro v' w2 hown2 hgrow _
      have hbel := hide ((BR.alloc hszr (.cells #[.string (s.extract f s.size)] 9)).grown hgrow (by simp; omega) (fun k hk => (World.ownsRow.lt own k hk).1))
      have HO : Hid (OwnsT w2 w.heap.size v' (D ++ [s.extract f s.size])) := by
        unfold Hid OwnsT
        rw [List.length_append, List.map_append]
        exact hown2
      have hDl : (D ++ [s.extract f s.size]).length ≤ s.size + 1 := by rw [List.length_append]; simp only [List.length_cons, List.length_nil]; omega
      clear hown2 hgrow own BR
      go_wp2
      go_ret
      exact ⟨⟨v', _, rfl, HO.out, HE.out.symm, hDl⟩, hbel.out⟩
end Go.Proofs.YtcnoipghepjodaaDoor
