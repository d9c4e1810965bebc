/- Texts of this seat one behind the other: PrsS, PrsR, PrsT, PrsP. Conditions: none. -/
import Derived.Test.YtgebplpbnaeckaaGreatDoorMg16
import Derived.Test.YtgebplpbnaeckaaGreatDoorMg01
import Derived.Deep.DeepAppendRoom
import Derived.Laws.ResultCell
import Derived.Deep.RegionWith
import Derived.Deep.DeepCutAuto

/- PrsS: Reading texts, of the model: its small functions. -/
namespace Go.Proofs.YtgebplpbnaeckaaGreatDoor
open Go.RowKit Go.Joins

theorem dec_step {n : Nat} (h : 10 ≤ n) : Lib.decDigits n = Lib.decDigits (n / 10) ++ Lib.decDigits (n % 10) := by
  rw [Lib.decDigits, dif_neg (by omega)]
  congr 1
  rw [Lib.decDigits, dif_pos (by omega)]
theorem numS_step {n : Nat} (h : 10 ≤ n) : numS (n / 10) ++ numS (n % 10) = numS n := by
  unfold numS
  rw [ByteArray.mk_append_mk, dec_step h]
theorem dec_len : ∀ n : Nat, (Lib.decDigits n).length ≤ n + 1 := by
  intro n
  induction n using Nat.strongRecOn with
  | ind n ih =>
    by_cases h : n < 10
    · rw [Lib.decDigits, dif_pos h]; simp
    · rw [Lib.decDigits, dif_neg h, List.length_append]
      have := ih (n / 10) (by omega)
      simp only [List.length_cons, List.length_nil]
      omega
theorem numS_len (n : Nat) : (numS n).size ≤ n + 1 := by
  have := dec_len n
  show (Lib.decDigits n).toArray.size ≤ _
  rw [List.size_toArray]; exact this
set_option maxRecDepth 100000 in
theorem number_all : ∀ (n : Nat), n ≤ 1000000 → ∀ (S : ByteArray) (w : World), numS n = S → Calls Tryz.prog 28 #[.int .i64 n] w fun e w' => e = .returned (.string S) ∧ w = w' := by
  intro n
  induction n using Nat.strongRecOn with
  | ind n ih =>
    intro hn S w hS
    by_cases h10 : n < 10
    · rw [← hS]; exact number_one n w h10
    · have e := numS_step (n := n) (by omega)
      rw [hS] at e
      have h1 : Int.tdiv (n : Int) 10 = ((n / 10 : Nat) : Int) := by rw [Int.tdiv_eq_ediv_of_nonneg (by omega)]; omega
      have h2 : Int.tmod (n : Int) 10 = ((n % 10 : Nat) : Int) := by rw [Int.tmod_eq_emod_of_nonneg (by omega)]; omega
      have l1 := numS_len (n / 10)
      have l2 := numS_len (n % 10)
      have HQ := hide (ih (n / 10) (by omega) (by omega))
      have hr10 : n % 10 < 10 := by omega
      have hq10 : n / 10 ≤ 100000 := by omega
      obtain ⟨q, hq⟩ : ∃ q, n / 10 = q := ⟨_, rfl⟩
      obtain ⟨r, hr⟩ : ∃ r, n % 10 = r := ⟨_, rfl⟩
      rw [hq] at h1 e l1 HQ hq10
      rw [hr] at h2 e l2 hr10
      have HB : Hid (∀ (x : Nat) (w : World), x = q ∨ x = r → Calls Tryz.prog 28 #[.int .i64 x] w fun e w' => e = .returned (.string (numS x)) ∧ w = w') := fun x w h => by
        rcases h with rfl | rfl
        · exact HQ.out _ w rfl
        · exact number_one _ w hr10
      have HE := hide e
      have hn : ¬ ((n : Int) < 10) := by omega
      have hsz : ¬ 9223372036854775807 < (numS q).size + (numS r).size := by omega
      clear e hq hr ih hS l1 l2
      go_enter Tryz.func28, Tryz.ntmps28
      go_wp2_with (go_at_call 28; refine (HB.out _ _ (by first | exact .inl rfl | exact .inr rfl)).mono ?_; rintro e w' ⟨rfl, rfl⟩)
      rw [HE.out]
      go_ret
      exact ⟨rfl, rfl⟩
theorem rdL_bad {b : UInt8} {r : List UInt8} {n : Nat} (h : b.toNat < 48 ∨ 57 < b.toNat ∨ 1000 < n) : rdL (b :: r) n = -1 := if_pos h
theorem rdL_go {b : UInt8} {r : List UInt8} {n : Nat} (h : ¬ (b.toNat < 48 ∨ 57 < b.toNat ∨ 1000 < n)) : rdL (b :: r) n = rdL r (10 * n + (b.toNat - 48)) := if_neg h
theorem rdN_bad {l : List UInt8} (h : rdL l 0 = -1) : rdN l = -1 := by unfold rdN; rw [h]; rfl
theorem rdN_end {l : List UInt8} {n : Nat} (h : rdL l 0 = rdL [] n) (hc : l = [] ∨ Lib.decDigits n ≠ l) : rdN l = -1 := by
  unfold rdN
  rw [h]
  show (if ((n : Nat) : Int) < 0 then _ else _) = _
  rw [if_neg (by omega), show (rdL [] n).toNat = n from Int.toNat_natCast n, if_pos hc]
theorem rdN_fine {l : List UInt8} {n : Nat} (h : rdL l 0 = rdL [] n) (h0 : ¬ l = []) (hc : Lib.decDigits n = l) : rdN l = n := by
  unfold rdN
  rw [h]
  show (if ((n : Nat) : Int) < 0 then _ else _) = _
  rw [if_neg (by omega), show (rdL [] n).toNat = n from Int.toNat_natCast n, if_neg (by rw [not_or]; exact ⟨h0, fun e => e hc⟩)]
  rfl
set_option maxHeartbeats 1000000 in
theorem readNumber_any (s : ByteArray) (w : World) (hs : s.size ≤ 1048576) :
    Calls Tryz.prog 59 #[.string s] w fun e w' => e = .returned (.int .i64 (rdN s.data.toList)) ∧ w = w' := by
  have hlen : s.data.toList.length = s.size := Array.length_toList
  go_enter Tryz.func59, Tryz.ntmps59
  go_wp2_with fail
  go_loop [3, 4] (fun v i => ∃ k n : Nat, k ≤ s.size ∧ i = .int .i64 k ∧ v = .int .i64 n ∧ n ≤ 10009 ∧ Hid (rdL s.data.toList 0 = rdL (s.data.toList.drop k) n)) (fun _ i => s.size - (intOf i).toNat)
  case atStart => exact ⟨0, 0, Nat.zero_le _, rfl, rfl, by decide, rfl⟩
  case round =>
    obtain ⟨k, n, hk, rfl, rfl, hn, HL⟩ := hrel
    by_cases hlt : k < s.size
    · have hd := List.drop_eq_getElem_cons (l := s.data.toList) (i := k) (by omega)
      have hsb : s.data.toList[k]'(by omega) = s[k] := rfl
      rw [hsb] at hd
      obtain ⟨y, hy⟩ : ∃ y, s[k].toNat = y := ⟨_, rfl⟩
      have hd2 := HL.out
      rw [hd] at hd2
      have HBAD : Hid ((s[k].toNat < 48 ∨ 57 < s[k].toNat ∨ 1000 < n) → rdL s.data.toList 0 = -1) := fun h => hd2.trans (rdL_bad h)
      have HGO : Hid (¬ (s[k].toNat < 48 ∨ 57 < s[k].toNat ∨ 1000 < n) → rdL s.data.toList 0 = rdL (s.data.toList.drop (k + 1)) (10 * n + (s[k].toNat - 48))) := fun h => hd2.trans (rdL_go h)
      rw [hy] at HBAD HGO
      clear hd hd2 hsb
      by_cases h1 : y < 48
      · have HR := hide (rdN_bad (HBAD.out (.inl h1)))
        have h1' : (y : Int) < 48 := by omega
        go_wp2
        go_ret
        rw [HR.out]
        exact ⟨rfl, rfl⟩
      · by_cases h2 : 57 < y
        · have HR := hide (rdN_bad (HBAD.out (.inr (.inl h2))))
          have h1' : ¬ (y : Int) < 48 := by omega
          have h2' : (57 : Int) < (y : Int) := by omega
          go_wp2
          go_ret
          rw [HR.out]
          exact ⟨rfl, rfl⟩
        · by_cases h3 : 1000 < n
          · have HR := hide (rdN_bad (HBAD.out (.inr (.inr h3))))
            have h1' : ¬ (y : Int) < 48 := by omega
            have h2' : ¬ (57 : Int) < (y : Int) := by omega
            have h3' : (1000 : Int) < (n : Int) := by omega
            go_wp2
            go_ret
            rw [HR.out]
            exact ⟨rfl, rfl⟩
          · have HR := hide (HGO.out (by omega))
            have h1' : ¬ (y : Int) < 48 := by omega
            have h2' : ¬ (57 : Int) < (y : Int) := by omega
            have h3' : ¬ (1000 : Int) < (n : Int) := by omega
            obtain ⟨z, rfl⟩ : ∃ z, y = 48 + z := ⟨y - 48, by omega⟩
            rw [show 48 + z - 48 = z from by omega] at HR
            go_wp2
            go_round
            case rel => exact ⟨k + 1, 10 * n + z, by omega, by go_num, by go_num, by omega, HR.out⟩
            case measure => simp only [intOf]; omega
    · obtain rfl : k = s.size := by omega
      have hl := HL.out
      rw [List.drop_of_length_le (by omega)] at hl
      have HS := hide (number_all n (by omega))
      have HL := hide hl
      clear hl
      go_wp2_with (go_at_call 28; refine (HS.out _ _ rfl).mono ?_; rintro e w' ⟨rfl, rfl⟩)
      · rename_i hz _
        go_ret
        refine ⟨?_, rfl⟩
        rw [ByteArray.toList_eq] at hz
        rw [hz]
        rfl
      · rename_i hz _ hc
        go_ret
        refine ⟨?_, rfl⟩
        rw [ByteArray.toList_eq] at hz hc
        rw [rdN_end HL.out (.inr (fun e => by
          rcases hc with hc | hc
          · exact hz (List.isEmpty_iff.1 hc)
          · rw [ByteArray.toList_eq, ← e] at hc
            simp [numS] at hc))]
        rfl
      · rename_i hz _ hc
        go_ret
        refine ⟨?_, rfl⟩
        rw [ByteArray.toList_eq] at hz hc
        rw [rdN_fine HL.out hz (by
          have h3 := hc.2
          rw [ByteArray.toList_eq] at h3
          simpa [numS] using h3)]
        rfl
theorem str_u {s : ByteArray} : ∀ u ∈ [Value.string s], u.oneCell' = true := by intro u hu; simp at hu; subst hu; rfl
theorem extract_list (s : ByteArray) (a b : Nat) : (s.extract a b).data.toList = (s.data.toList.drop a).take (b - a) := by
  simp only [ByteArray.data_extract, Array.toList_extract]
/-- how far a text is cut -/
def CutTo (c : UInt8) (l : List UInt8) (D : List ByteArray) (f i : Nat) : Prop := f ≤ i ∧ spl c l = D.map (·.data.toList) ++ spl c (l.drop f) ∧ ¬ c ∈ (l.drop f).take (i - f) ∧ D.length ≤ i
theorem cut_zero (c : UInt8) (l : List UInt8) : CutTo c l [] 0 0 := ⟨Nat.le_refl _, by simp, by simp, Nat.zero_le _⟩
theorem cut_miss {c : UInt8} {l : List UInt8} {D : List ByteArray} {f i : Nat} (h : CutTo c l D f i) (hi : i < l.length) (hc : l[i] ≠ c) : CutTo c l D f (i + 1) := by
  obtain ⟨h1, h2, h3, h4⟩ := h
  refine ⟨by omega, h2, ?_, by omega⟩
  have hk : i - f < (l.drop f).length := by rw [List.length_drop]; omega
  rw [show i + 1 - f = i - f + 1 from by omega, List.take_succ_eq_append_getElem hk, List.mem_append, not_or]
  refine ⟨h3, ?_⟩
  rw [List.mem_singleton, List.getElem_drop]
  simp only [show f + (i - f) = i from by omega]
  exact fun e => hc e.symm
theorem cut_hit {c : UInt8} {s : ByteArray} {D : List ByteArray} {f i : Nat} (h : CutTo c s.data.toList D f i) (hi : i < s.data.toList.length) (hc : s.data.toList[i] = c) : CutTo c s.data.toList (D ++ [s.extract f i]) (i + 1) (i + 1) := by
  obtain ⟨h1, h2, h3, h4⟩ := h
  refine ⟨Nat.le_refl _, ?_, by simp, by simp; omega⟩
  have hd : s.data.toList.drop f = (s.data.toList.drop f).take (i - f) ++ c :: s.data.toList.drop (i + 1) := by
    have e1 := (List.take_append_drop (i - f) (s.data.toList.drop f)).symm
    rw [List.drop_drop, show f + (i - f) = i from by omega, List.drop_eq_getElem_cons hi, hc] at e1
    exact e1
  rw [h2, List.map_append, List.map_singleton, extract_list, List.append_assoc]
  congr 1
  conv => lhs; rw [hd]
  rw [spl_app _ h3]
  rfl
theorem cut_end {c : UInt8} {s : ByteArray} {D : List ByteArray} {f : Nat} (h : CutTo c s.data.toList D f s.size) : spl c s.data.toList = (D ++ [s.extract f s.size]).map (·.data.toList) := by
  obtain ⟨h1, h2, h3, h4⟩ := h
  have hl : s.data.toList.length = s.size := Array.length_toList
  rw [h2, List.map_append, List.map_singleton, extract_list]
  congr 1
  have ht : (s.data.toList.drop f).take (s.size - f) = s.data.toList.drop f := List.take_of_length_le (by rw [List.length_drop]; omega)
  rw [ht] at h3 ⊢
  exact spl_none h3
/-- a slice of texts that a call has made -/
def OwnsT (w : World) (base : Nat) (v : Value) (ps : List ByteArray) : Prop := w.ownsRow base 9 1 v ps.length (ps.map Value.string)
set_option maxHeartbeats 1000000 in
theorem splitAt_any (s : ByteArray) (c : UInt8) (w : World) (hs : s.size ≤ 1048576) :
    Calls Tryz.prog 34 #[.string s, .int .u8 c.toNat] w fun e w' => (∃ v ps, e = .returned v ∧ OwnsT w' w.heap.size v ps ∧ ps.map (·.data.toList) = spl c s.data.toList ∧ ps.length ≤ s.size + 1) ∧ Below w.heap.size w w' := by
  obtain ⟨i0, hi0, hz0, hz1, hz2⟩ := info_parts info_string
  have hlen : s.data.toList.length = s.size := Array.length_toList
  have ho := World.ownsRow_lit (base := w.heap.size) (e := 9) (size := 1) w #[] 0 (Nat.le_refl _) (by simp) rfl
  have bb := bel1 w (.cells #[] 9)
  go_enter Tryz.func34, Tryz.ntmps34
  go_wp2_with fail
  go_loopw [5, 6, 7] (fun v fv iv wr => ∃ (D : List ByteArray) (f i : Nat), i ≤ s.size ∧ fv = .int .i64 f ∧ iv = .int .i64 i ∧ wr.ownsRow w.heap.size 9 1 v D.length (D.map Value.string) ∧ Hid (CutTo c s.data.toList D f i) ∧ Below w.heap.size w wr) (fun _ _ i _ => s.size - (intOf i).toNat)
  case atStart => exact ⟨[], 0, 0, Nat.zero_le _, rfl, rfl, ho, cut_zero _ _, bb⟩
  case round =>
    clear ho bb
    obtain ⟨D, f, i, hi, rfl, rfl, own, HC, BR⟩ := hrel
    have hfi := HC.out.1
    have hDi := HC.out.2.2.2
    have hszr := BR.size
    by_cases hlt : i < s.size
    · have hsb : s.data.toList[i]'(by omega) = s[i] := rfl
      by_cases hc : s[i] = c
      · have HH := hide (cut_hit HC.out (by omega) (hsb.trans hc))
        have hcc : ((s[i].toNat : Int) == (c.toNat : Int)) = true := by rw [hc]; simp
        obtain ⟨E, hE⟩ : ∃ E, E = s.extract f i := ⟨_, rfl⟩
        rw [← hE] at HH
        go_wp2_with ((at_builtin; refine wpList_append_own _ rfl _ _ 23 rfl w.heap.size 9 i0 (.string ⟨#[]⟩) 1 16 Tryz.underlying23 hi0 hz0 hz1 hz2 rfl (by decide) _ D.length _ rfl (own.alloc _) ⟨wr.heap.size, 0, none⟩ 1 1 [.string (s.extract f i)] rfl rfl (cell_one_new _ _ _) str_u (by unfold maxLen; omega) (by omega) (by simp; omega) ?_))
        intro v' w2 hown2 hgrow _
        have hbel := hide ((BR.alloc hszr (.cells #[.string (s.extract f i)] 9)).grown hgrow (by simp; omega) (fun k hk => (World.ownsRow.lt own k hk).1))
        have HO : Hid (w2.ownsRow w.heap.size 9 1 v' (D ++ [E]).length ((D ++ [E]).map Value.string)) := by
          unfold Hid
          rw [List.length_append, List.map_append, hE]
          exact hown2
        clear hown2 hgrow own BR hsb hcc
        go_wp2
        go_roundw
        case rel => exact ⟨D ++ [E], i + 1, i + 1, by omega, by go_num, by go_num, HO.out, HH.out, hbel.out⟩
        case measure => simp only [intOf]; omega
      · have HH := hide (cut_miss HC.out (by omega) (fun e => hc (hsb.symm.trans e)))
        have hcc : ((s[i].toNat : Int) == (c.toNat : Int)) = false := by
          rw [beq_eq_false_iff_ne]
          intro e
          exact hc (UInt8.toNat_inj.1 (by omega))
        clear hsb
        go_wp2
        go_roundw
        case rel => exact ⟨D, f, i + 1, by omega, rfl, by go_num, own, HH.out, BR⟩
        case measure => simp only [intOf]; omega
    · obtain rfl : i = s.size := by omega
      have HE := hide (cut_end HC.out)
      go_wp2_with ((at_builtin; refine wpList_append_own _ rfl _ _ 23 rfl w.heap.size 9 i0 (.string ⟨#[]⟩) 1 16 Tryz.underlying23 hi0 hz0 hz1 hz2 rfl (by decide) _ D.length _ rfl (own.alloc _) ⟨wr.heap.size, 0, none⟩ 1 1 [.string (s.extract f s.size)] rfl rfl (cell_one_new _ _ _) str_u (by unfold maxLen; omega) (by omega) (by simp; omega) ?_))
      intro v' w2 hown2 hgrow _
      have hbel := hide ((BR.alloc hszr (.cells #[.string (s.extract f s.size)] 9)).grown hgrow (by simp; omega) (fun k hk => (World.ownsRow.lt own k hk).1))
      have HO : Hid (OwnsT w2 w.heap.size v' (D ++ [s.extract f s.size])) := by
        unfold Hid OwnsT
        rw [List.length_append, List.map_append]
        exact hown2
      have hDl : (D ++ [s.extract f s.size]).length ≤ s.size + 1 := by rw [List.length_append]; simp only [List.length_cons, List.length_nil]; omega
      clear hown2 hgrow own BR
      go_wp2
      go_ret
      exact ⟨⟨v', _, rfl, HO.out, HE.out.symm, hDl⟩, hbel.out⟩
end Go.Proofs.YtgebplpbnaeckaaGreatDoor

/- PrsR: What the readers of spaces give back. -/
namespace Go.Proofs.YtgebplpbnaeckaaGreatDoor
open Go.RowKit Go.Joins

theorem block_set {w : World} {g i : Nat} {cs : Array Value} {t : TypeId} (h : w.heap[g]? = some (.cells cs t (0, 0))) (v : Value) : (w.setCell ⟨g, i, none⟩ v).heap[g]? = some (.cells (cs.setIfInBounds i v) t (0, 0)) := block_setCell h v
/-- what ParseSpace answers -/
def PsE (o : Option (Int × List Int)) (w w' : World) (e : Ending) : Prop := (∃ n zs a cap, o = some (n, zs) ∧ e = .returned (.tuple #[.agg #[.int .i64 n, .slice a zs.length cap], .bool true]) ∧ Owns w' w.heap.size (.slice a zs.length cap) zs) ∨ (o = none ∧ e = .returned (.tuple #[.agg #[.int .i64 0, .slice none 0 0], .bool false]))
/-- a space and whether there is one, given back -/
theorem ret_spb {fn : Func} {p u : Tmp} (h : fn.results = #[.cell p 37, .tmp u]) (tmps : Array Value) (w : World) (g : Nat) (x y : Value)
    (hp : tmps.getD p undef = .pointer (some ⟨g, 0, none⟩)) (hw : w.heap[g]? = some (.cells #[x, y] 37 (0, 0))) :
    (results fn tmps).run Tryz.prog w = .ok (.tuple #[.agg #[x, y], tmps.getD u undef]) w := by
  have c0 := cell_of_block hw 0
  have c1 := cell_of_block hw 1
  rw [results_cell_tmp h, hp]
  simp [go_sem] at c0 c1 ⊢
  simp [c0, c1, go_sem]
end Go.Proofs.YtgebplpbnaeckaaGreatDoor

/- PrsT: ParseSpace of the model, out of parseSpace's contract. -/
namespace Go.Proofs.YtgebplpbnaeckaaGreatDoor
open Go.RowKit Go.Joins

/-- what parseSpace gives -/
def PaE (o : Option (Int × List Int)) (w w' : World) (e : Ending) : Prop := ∃ n zs a cap b, e = .returned (.tuple #[.agg #[.int .i64 n, .slice a zs.length cap], .bool b]) ∧ Owns w' w.heap.size (.slice a zs.length cap) zs ∧ o = if b = true then some (n, zs) else none
end Go.Proofs.YtgebplpbnaeckaaGreatDoor

/- PrsP: Reading texts, of the model: lists, spaces. -/
namespace Go.Proofs.YtgebplpbnaeckaaGreatDoor
open Go.RowKit Go.Joins

theorem spl_small (c : UInt8) : ∀ (l : List UInt8), ∀ p ∈ spl c l, p.length ≤ l.length
  | [], p, h => by simp [spl] at h; subst h; exact Nat.le_refl _
  | b :: r, p, h => by
    by_cases hb : b = c
    · subst hb
      rw [spl_at] at h
      rcases List.mem_cons.1 h with rfl | h
      · simp
      · have := spl_small b r p h
        rw [List.length_cons]; omega
    · obtain ⟨q, qs, e1, e2⟩ := spl_cons hb r
      have hq := spl_small c r q (by rw [e1]; simp)
      rw [e2] at h
      rcases List.mem_cons.1 h with rfl | h
      · rw [List.length_cons, List.length_cons]; omega
      · have := spl_small c r p (by rw [e1]; simp [h])
        rw [List.length_cons]; omega
theorem pieces_small {c : UInt8} {s : ByteArray} {ps : List ByteArray} (h : ps.map (·.data.toList) = spl c s.data.toList) (hs : s.size ≤ 1048576) : ∀ p ∈ ps, p.size ≤ 1048576 := fun p hp => by
  have h1 := spl_small c s.data.toList p.data.toList (by rw [← h]; exact List.mem_map_of_mem hp)
  rw [Array.length_toList, Array.length_toList] at h1
  exact Nat.le_trans h1 hs
theorem splitAt_was (s : ByteArray) (c : UInt8) (x : Int) (w : World) (hs : s.size ≤ 1048576) (hx : x = (c.toNat : Int)) :
    Calls Tryz.prog 34 #[.string s, .int .u8 x] w fun e w' => (∃ v ps, e = .returned v ∧ OwnsT w' w.heap.size v ps ∧ ps.map (·.data.toList) = spl c s.data.toList ∧ ps.length ≤ s.size + 1) ∧ Below w.heap.size w w' := by
  subst hx
  exact splitAt_any s c w hs
theorem OwnsT.form {w : World} {base : Nat} {v : Value} {ps : List ByteArray} (h : OwnsT w base v ps) (h0 : 0 < ps.length) : ∃ g cap, v = .slice (some ⟨g, 0, none⟩) ps.length cap ∧ base ≤ g ∧ g < w.heap.size ∧ ∀ k (hk : k < ps.length), w.cell? ⟨g, k, none⟩ = some (.string ps[k]) := by
  have h' : w.ownsRow base 9 1 v ps.length (ps.map Value.string) := h
  obtain ⟨g, cap, rfl⟩ := ownsRow_form h' h0
  have hl := h'.lt g rfl
  refine ⟨g, cap, rfl, hl.1, hl.2, fun k hk => ?_⟩
  rw [h'.cellAt k (by omega), List.getElem?_map, List.getElem?_eq_getElem hk]
  rfl
theorem spl_pos {c : UInt8} {l : List UInt8} {ps : List ByteArray} (h : ps.map (·.data.toList) = spl c l) : 0 < ps.length := by
  rcases Nat.eq_zero_or_pos ps.length with e | e
  · have : ps = [] := List.length_eq_zero_iff.1 e
    subst this
    exact absurd h.symm (spl_ne c l)
  · exact e
/-- the numbers of the first k pieces -/
def rdTo (ps : List ByteArray) (k : Nat) : List Int := (ps.take k).map fun p => rdN p.data.toList
theorem rdTo_len (ps : List ByteArray) (k : Nat) (h : k ≤ ps.length) : (rdTo ps k).length = k := by unfold rdTo; rw [List.length_map, List.length_take]; omega
theorem rdTo_succ {ps : List ByteArray} {k : Nat} (h : k < ps.length) : rdTo ps (k + 1) = rdTo ps k ++ [rdN ps[k].data.toList] := by
  unfold rdTo
  rw [List.take_succ_eq_append_getElem h, List.map_append, List.map_singleton]
theorem rdTo_all {ps : List ByteArray} {ls : List (List UInt8)} (h : ps.map (·.data.toList) = ls) : rdTo ps ps.length = ls.map rdN := by
  unfold rdTo
  rw [List.take_length, ← h, List.map_map]
  rfl
theorem readNumber_was (s : ByteArray) (x : Int) (w : World) (hs : s.size ≤ 1048576) (hx : rdN s.data.toList = x) :
    Calls Tryz.prog 59 #[.string s] w fun e w' => e = .returned (.int .i64 x) ∧ w = w' := by
  subst hx
  exact readNumber_any s w hs
theorem cell_same {w w' : World} {g : Nat} (h : w'.heap[g]? = w.heap[g]?) (k : Nat) : w'.cell? ⟨g, k, none⟩ = w.cell? ⟨g, k, none⟩ := by
  unfold World.cell?
  simp only [h]
set_option maxHeartbeats 1000000 in
set_option maxRecDepth 100000 in
theorem readList_any (s : ByteArray) (w : World) (hs : s.size ≤ 1048576) :
    Calls Tryz.prog 40 #[.string s] w fun e w' => (∃ v, e = .returned v ∧ Owns w' w.heap.size v ((spl 44 s.data.toList).map rdN)) ∧ ((spl 44 s.data.toList).map rdN).length ≤ s.size + 1 ∧ Below w.heap.size w w' := by
  obtain ⟨i0, hi0, hz0, hz1, hz2⟩ := info_parts info_int
  have ho := World.ownsRow_lit (base := w.heap.size) (e := 3) (size := 1) w #[] 0 (Nat.le_refl _) (by simp) rfl
  have bb := bel1 w (.cells #[] 3)
  obtain ⟨W, hW⟩ : ∃ W : World, W = w.alloc (.cells #[] 3) := ⟨_, rfl⟩
  rw [← hW] at ho bb
  go_enter Tryz.func40, Tryz.ntmps40
  go_wp2_with fail
  rw [← hW]
  have hWs : W.heap.size = w.heap.size + 1 := by rw [hW]; simp
  clear hW
  refine (splitAt_was s 44 _ _ hs rfl).mono ?_
  rintro e w1 ⟨⟨v, ps, rfl, own, hps, hpl⟩, hb1⟩
  have h0 := spl_pos hps
  obtain ⟨g, cp, rfl, hg1, hg2, hcell⟩ := own.form h0
  have HSM := hide (pieces_small hps hs)
  have HALL := hide (rdTo_all hps)
  have O1 := World.ownsRow.kept ho (row := none) ⟨hb1.os, hb1.tape, hb1.output, hb1.size, fun k hk _ => hb1.block k hk⟩ (.inr (by simp [Value.ownBlock]))
  have B1 := bb.trans (hb1.mono bb.size)
  clear ho own hps hb1 bb
  go_wp2_with fail
  have hW1 : w.heap.size + 1 ≤ g := by omega
  have hneg : (Value.slice (some ⟨w.heap.size, 0, none⟩) 0 0).ownBlock ≠ some g := by simp [Value.ownBlock]; omega
  go_loopw [3, 5] (fun v iv wr => ∃ k : Nat, k ≤ ps.length ∧ iv = .int .i64 k ∧ wr.ownsRow w.heap.size 3 1 v k ((rdTo ps k).map (Value.int .i64)) ∧ v.ownBlock ≠ some g ∧ wr.heap[g]? = w1.heap[g]? ∧ g < wr.heap.size ∧ Below w.heap.size w wr) (fun _ i _ => ps.length - (intOf i).toNat)
  case atStart => exact ⟨0, Nat.zero_le _, rfl, O1, hneg, rfl, hg2, B1⟩
  case round =>
    clear O1 hneg B1
    obtain ⟨k, hk, rfl, own, hne, hgb, hgl, BR⟩ := hrel
    have hszr := BR.size
    by_cases hlt : k < ps.length
    · have hck := (cell_same hgb k).trans (hcell k hlt)
      have HSU := hide (rdTo_succ hlt)
      have hsm := HSM.out _ (List.getElem_mem hlt)
      obtain ⟨p, hp⟩ : ∃ p, p = ps[k] := ⟨_, rfl⟩
      rw [← hp] at hck HSU hsm
      obtain ⟨x, hx⟩ : ∃ x, rdN p.data.toList = x := ⟨_, rfl⟩
      rw [hx] at HSU
      have HX := hide hx
      clear hp hx
      go_wp2_with fail
      refine (readNumber_was _ x _ hsm HX.out).mono ?_
      rintro e w' ⟨rfl, rfl⟩
      go_wp2_with ((at_builtin; refine wpList_append_apart _ rfl _ _ 35 rfl w.heap.size 3 i0 (.int .i64 0) 1 8 Tryz.underlying35 hi0 hz0 hz1 hz2 rfl (by decide) _ k _ rfl (own.alloc _) ⟨wr.heap.size, 0, none⟩ 1 1 [.int .i64 x] rfl rfl (cell_one_new _ _ _) (by intro u hu; simp at hu; subst hu; rfl) (by decide) (by unfold maxLen; omega) (by omega) (by simp; omega) ?_))
      intro v' w2 hown2 hgrow hne2
      have hbel := hide ((BR.alloc hszr (.cells #[.int .i64 x] 3)).grown hgrow (by simp; omega) (fun j hj => (World.ownsRow.lt own j hj).1))
      have HNE := hide (hne2 g (by first | omega | (simp; omega)) hne)
      have HGB := hide ((hgrow.block g (by first | omega | (simp; omega)) (fun e => hne e.symm)).trans (((bel1 wr (.cells #[.int .i64 x] 3)).block g hgl).trans hgb))
      have HGL : Hid (g < w2.heap.size) := hide (by have := hgrow.size; first | omega | (simp at this; omega))
      have HO : Hid (w2.ownsRow w.heap.size 3 1 v' (k + 1) ((rdTo ps (k + 1)).map (Value.int .i64))) := by
        unfold Hid
        rw [HSU.out, List.map_append]
        exact hown2
      clear hown2 hgrow own hne2 BR
      go_wp2
      go_roundw
      case rel => exact ⟨k + 1, by omega, by go_num, HO.out, HNE.out, HGB.out, HGL.out, hbel.out⟩
      case measure => simp only [intOf]; omega
    · obtain rfl : k = ps.length := by omega
      rw [HALL.out] at own
      have hl2 : (List.map rdN (spl 44 s.data.toList)).length = ps.length := by rw [← HALL.out, rdTo_len _ _ (Nat.le_refl _)]
      have HO : Hid (Owns wr w.heap.size u3 (List.map rdN (spl 44 s.data.toList))) := by unfold Hid Owns; rw [hl2]; exact own
      go_wp2
      go_ret
      exact ⟨⟨u3, rfl, HO.out⟩, by rw [hl2]; exact hpl, BR⟩
theorem two_pieces {c : UInt8} {l p q : List UInt8} (h : [p, q] = spl c l) : q.length + 1 ≤ l.length := by
  have h1 := join_spl c l
  rw [← h, join_cc, Lib.join_one] at h1
  rw [← h1]
  simp
/-- a space in its own box, read by a call -/
def FinP (w W : World) (gb : Nat) (x : Int) (a : Option Addr) (cap : Nat) (zs : List Int) : Prop :=
  W.heap[gb]? = some (.cells #[.int .i64 x, .slice a zs.length cap] 37 (0, 0)) ∧ Owns W (w.heap.size + 1) (.slice a zs.length cap) zs ∧ Below w.heap.size w W ∧ W.heap[w.heap.size]? = some (.cells #[.int .i64 0, .slice none 0 0] 37 (0, 0)) ∧ w.heap.size < gb
theorem finA {w w1 w2 : World} {x : Int} {a : Option Addr} {cap : Nat} {zs : List Int} (B1 : Below w.heap.size w w1) (hs : w.heap.size < w1.heap.size) (hr : w1.heap[w.heap.size]? = some (.cells #[.int .i64 0, .slice none 0 0] 37 (0, 0))) (hb : Below w1.drew.heap.size w1.drew w2) (ho : Owns w2 w1.drew.heap.size (.slice a zs.length cap) zs) :
    FinP w (w2.alloc (.cells #[.int .i64 x, .slice a zs.length cap] 37)) w2.heap.size x a cap zs := by
  have h2 : w1.heap.size ≤ w2.heap.size := hb.size
  refine ⟨heap_alloc_new _ _, (ho.below (bel1 w2 _)).le hs, (bnext B1 (bdrew hb)).trans ((bel1 w2 _).mono (by omega)), ?_, by omega⟩
  exact ((bel1 w2 _).block _ (by omega)).trans ((hb.block _ (by exact hs)).trans hr)
theorem finB {w w1 w2 : World} {x : Int} {a : Option Addr} {cap : Nat} {zs : List Int} (B1 : Below w.heap.size w w1) (hs : w.heap.size < w1.heap.size) (hr : w1.heap[w.heap.size]? = some (.cells #[.int .i64 0, .slice none 0 0] 37 (0, 0))) (hb : Below (w1.drew.alloc (.cells #[.int .i64 0, .slice none 0 0] 37)).heap.size (w1.drew.alloc (.cells #[.int .i64 0, .slice none 0 0] 37)) w2) (ho : Owns w2 (w1.drew.alloc (.cells #[.int .i64 0, .slice none 0 0] 37)).heap.size (.slice a zs.length cap) zs) :
    FinP w ((w2.setCell ⟨w1.heap.size, 0, none⟩ (.int .i64 x)).setCell ⟨w1.heap.size, 1, none⟩ (.slice a zs.length cap)) w1.heap.size x a cap zs := by
  have hz : (w1.drew.alloc (.cells #[.int .i64 0, .slice none 0 0] 37)).heap.size = w1.heap.size + 1 := by simp
  have zz := (hb.block w1.heap.size (by omega)).trans (heap_alloc_new w1.drew (.cells #[.int .i64 0, .slice none 0 0] 37))
  have BB : Below w.heap.size w w2 := (bdrew' B1).trans (((bel1 w1.drew _).mono B1.size).trans (hb.mono (by have := B1.size; omega)))
  refine ⟨block_setCell (i := 1) (block_setCell (i := 0) zz _) _, ?_, (BB.setCell (p := ⟨w1.heap.size, 0, none⟩) B1.size _).setCell (p := ⟨w1.heap.size, 1, none⟩) B1.size _, ?_, hs⟩
  · refine Owns.le (base := (w1.drew.alloc (.cells #[.int .i64 0, .slice none 0 0] 37)).heap.size) ?_ (by omega)
    exact (ho.setBelow (by rw [hz]; exact Nat.lt_succ_self _) _).setBelow (by rw [hz]; exact Nat.lt_succ_self _) _
  · have hne : ¬ w.heap.size = w1.heap.size := by omega
    rw [heap_setCell_other _ _ _ _ hne, heap_setCell_other _ _ _ _ hne, hb.block _ (by omega)]
    exact ((bel1 w1.drew _).block _ (by exact hs)).trans hr
set_option maxHeartbeats 8000000 in
set_option maxRecDepth 100000 in
theorem parseSpace_any (s : ByteArray) (w : World) (hs : s.size ≤ 1048576) :
    Calls Tryz.prog 35 #[.string s] w fun e w' => (∃ n zs a cap b, e = .returned (.tuple #[.agg #[.int .i64 n, .slice a zs.length cap], .bool b]) ∧ Owns w' w.heap.size (.slice a zs.length cap) zs ∧ parS s.data.toList = if b = true then some (n, zs) else none) ∧ Below w.heap.size w w' := by
  have BB := bel1 w (.cells #[.int .i64 0, .slice none 0 0] 37)
  have hb0 := heap_alloc_new w (.cells #[.int .i64 0, .slice none 0 0] 37)
  obtain ⟨W, hW⟩ : ∃ W : World, W = w.alloc (.cells #[.int .i64 0, .slice none 0 0] 37) := ⟨_, rfl⟩
  rw [← hW] at BB hb0
  have hWs : W.heap.size = w.heap.size + 1 := by rw [hW]; simp
  go_enter Tryz.func35, Tryz.ntmps35
  go_wp2_with fail
  rw [← hW]
  clear hW
  refine (splitAt_was s 58 _ _ hs rfl).mono ?_
  rintro e w1 ⟨⟨v, ps, rfl, own, hps, hpl⟩, hb1⟩
  have h0 := spl_pos hps
  obtain ⟨g, cp, rfl, hg1, hg2, hcell⟩ := own.form h0
  by_cases h2 : ps.length = 2
  · obtain ⟨p, q, rfl⟩ : ∃ p q, ps = [p, q] := by
      match ps, h2 with
      | [p, q], _ => exact ⟨p, q, rfl⟩
    have c0 := hcell 0 (by simp)
    have c1 := hcell 1 (by simp)
    simp only [List.getElem_cons_zero, List.getElem_cons_succ] at c0 c1
    rw [show [p, q].length = 2 from rfl]
    have hsm := pieces_small hps hs
    have hpp := hsm p (by simp)
    have hqq := hsm q (by simp)
    have hq1 : q.size + 1 ≤ 1048576 := by
      have h3 := two_pieces (p := p.data.toList) (q := q.data.toList) hps
      rw [Array.length_toList, Array.length_toList] at h3
      exact Nat.le_trans h3 hs
    obtain ⟨x, hx⟩ : ∃ x, rdN p.data.toList = x := ⟨_, rfl⟩
    have HX := hide hx
    obtain ⟨zs, hzs⟩ : ∃ zs, (spl 44 q.data.toList).map rdN = zs := ⟨_, rfl⟩
    have HRL := hide (readList_any q)
    rw [hzs] at HRL
    have HP : Hid (parS s.data.toList = if vsB x zs = true then some (x, zs) else none) := by
      unfold Hid parS
      rw [← hps, ← hx, ← hzs]
      rfl
    have d0 := (bel1 w1 (.cells #[] 0)).cell (p := ⟨g, 0, none⟩) hg2
    have B1 := BB.trans (hb1.mono BB.size)
    have hr1 := hide ((hb1.block _ (lt_of_block hb0)).trans hb0)
    have hs1 : w.heap.size < w1.heap.size := lt_of_block hr1.out
    clear d0 hx hsm hcell hb1 hps hzs own BB hb0
    go_upto_region 4 with fail
    go_cut [5] (fun v5 wx => ∃ (gb : Nat) (a2 : Option Addr) (cap2 : Nat), v5 = .pointer (some ⟨gb, 0, none⟩) ∧ zs.length ≤ 1048576 ∧ FinP w wx gb x a2 cap2 zs)
    case first =>
      go_region_with (first
        | (go_at_call 59; refine (readNumber_was _ x _ hpp HX.out).mono ?_; rintro e w' ⟨rfl, rfl⟩)
        | (go_at_call 40; refine (HRL.out _ hqq).mono ?_; rintro e w2 ⟨⟨v2, rfl, own2⟩, hl2, hb2⟩; obtain ⟨a2, cap2, rfl, is2, _⟩ := own2.form; have HB2 := hide hb2; have HO2 := hide own2; try (have zz := (hb2.block w1.heap.size (by simp)).trans (heap_alloc_new w1.drew (.cells #[.int .i64 0, .slice none 0 0] 37)); have z0 := cell_of_block zz 0; have z1 := cell_of_block zz 1; have y0 := unfrozen_of_block zz 0; have y1 := unfrozen_of_block zz 1; have HZZ := hide zz; clear zz); clear hb2 own2))
      all_goals
        go_wp2_with fail
        go_meet
        first
          | exact ⟨_, _, _, rfl, by omega, finA (x := x) B1 hs1 hr1.out HB2.out HO2.out⟩
          | exact ⟨_, _, _, rfl, by omega, finB (x := x) B1 hs1 hr1.out HB2.out HO2.out⟩
    case rest =>
      obtain ⟨gb, a2, cap2, rfl, hzn, bx, OW, BW, rs, hlt⟩ := hcut
      obtain ⟨WX, rfl⟩ : ∃ WX, WX = wc := ⟨_, rfl⟩
      have b0 := cell_of_block bx 0
      have b1 := cell_of_block bx 1
      have r0 := cell_of_block rs 0
      have r1 := cell_of_block rs 1
      have f0 := unfrozen_of_block rs 0
      have f1 := unfrozen_of_block rs 1
      have HRS := hide rs
      have HBX := hide bx
      have HOW := hide OW
      have iw1 : Ints WX.drew a2 zs := (OW.below (bdrew' (Below.refl _ _))).ints
      have OW2 : Owns ((WX.drew.setCell ⟨w.heap.size, 0, none⟩ (.int .i64 x)).setCell ⟨w.heap.size, 1, none⟩ (.slice a2 zs.length cap2)) (w.heap.size + 1) (.slice a2 zs.length cap2) zs := ((OW.below (bdrew' (Below.refl _ _))).setBelow (p := ⟨w.heap.size, 0, none⟩) (Nat.lt_succ_self _) _).setBelow (p := ⟨w.heap.size, 1, none⟩) (Nat.lt_succ_self _) _
      have iw2 := OW2.ints
      have HOW2 := hide OW2
      have hwx : w.heap.size < WX.heap.size := lt_of_block rs
      have hgx : gb < WX.heap.size := lt_of_block bx
      have hneg : ¬ gb = w.heap.size := by omega
      have hneg2 : ¬ w.heap.size = gb := by omega
      clear bx rs OW OW2
      go_wp2
      go_region_with (go_at_call 27; refine (validSpace_any _ _ _ _ _ (by first | exact iw1 | exact iw2) hzn).mono ?_; rintro e w9 ⟨rfl, hb9⟩; have HB9 := hide hb9; try (have rr := (hb9.block w.heap.size (by exact hwx)).trans HRS.out; have z0 := cell_of_block rr 0; have z1 := cell_of_block rr 1; have y0 := unfrozen_of_block rr 0; have y1 := unfrozen_of_block rr 1; have HRR := hide rr; have tt := (hb9.block gb (by exact hgx)).trans HBX.out; have t0 := cell_of_block tt 0; have t1 := cell_of_block tt 1; clear rr tt); clear hb9)
      all_goals
        go_wp2
        first
          | exact bodyPost_ret (ret_spb rfl _ _ _ _ _ rfl (block_setCell (i := 1) (block_setCell (i := 0) HRR.out _) _)) rfl ⟨⟨x, zs, a2, cap2, vsB x zs, rfl, (((HOW.out.below (bdrew HB9.out)).setBelow (p := ⟨w.heap.size, 0, none⟩) (Nat.lt_succ_self _) _).setBelow (p := ⟨w.heap.size, 1, none⟩) (Nat.lt_succ_self _) _).le (Nat.le_succ _), HP.out⟩, ((BW.trans ((bdrew HB9.out).mono BW.size)).setCell (p := ⟨w.heap.size, 0, none⟩) (Nat.le_refl _) _).setCell (p := ⟨w.heap.size, 1, none⟩) (Nat.le_refl _) _⟩
          | exact bodyPost_ret (ret_spb rfl _ _ _ _ _ rfl ((HB9.out.block _ (by simp; exact hwx)).trans (block_setCell (i := 1) (block_setCell (i := 0) (show WX.drew.heap[w.heap.size]? = _ from HRS.out) _) _))) rfl ⟨⟨x, zs, a2, cap2, vsB x zs, rfl, (HOW2.out.below HB9.out).le (Nat.le_succ _), HP.out⟩, (((bdrew' BW).setCell (p := ⟨w.heap.size, 0, none⟩) (Nat.le_refl _) _).setCell (p := ⟨w.heap.size, 1, none⟩) (Nat.le_refl _) _).trans (HB9.out.mono (by simp; exact BW.size))⟩
  · have HN : Hid (parS s.data.toList = none) := by
      unfold Hid parS
      split
      · rename_i a b e
        have := congrArg List.length hps
        rw [e, List.length_map] at this
        exact absurd this h2
      · rfl
    have hln : ((ps.length : Int) == 2) = false := by rw [beq_eq_false_iff_ne]; omega
    have hres := (hb1.block _ (lt_of_block hb0)).trans hb0
    have f0 := unfrozen_of_block hres 0
    have f1 := unfrozen_of_block hres 1
    have g0 := cell_of_block hres 0
    have g1 := cell_of_block hres 1
    have HRS := hide hres
    have B1 := BB.trans (hb1.mono BB.size)
    clear hres hb0 hb1 BB hps hcell own
    go_wp2
    refine bodyPost_ret (ret_spb rfl _ _ _ _ _ rfl (block_setCell (i := 1) (block_setCell (i := 0) HRS.out _) _)) rfl ?_
    exact ⟨⟨0, [], none, 0, false, rfl, World.ownsRow_nil _ _ _ _, by rw [HN.out]; rfl⟩, (B1.setCell (p := ⟨w.heap.size, 0, none⟩) (Nat.le_refl _) _).setCell (p := ⟨w.heap.size, 1, none⟩) (Nat.le_refl _) _⟩
end Go.Proofs.YtgebplpbnaeckaaGreatDoor
