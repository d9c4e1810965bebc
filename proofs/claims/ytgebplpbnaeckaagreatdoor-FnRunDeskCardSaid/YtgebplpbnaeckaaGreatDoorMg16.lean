/- Texts of this seat one behind the other: TxtS, TxtI, PrsM, PrsN. Conditions: none. -/
import Derived.Test.YtgebplpbnaeckaaGreatDoorShelf
import Derived.Test.YtgebplpbnaeckaaGreatDoorMg01
import Derived.Deep.RegionWith
import Derived.Lib.Split
import Derived.Lib.CountLaws
import Derived.Lib.CutLaws
import Derived.Lib.IndexBytes
import Derived.Lib.SplitLaws
import Derived.Lib.AtoiAll

/- TxtS: The text of a space, of the model. -/
namespace Go.Proofs.YtgebplpbnaeckaaGreatDoor
open Go.RowKit Go.Joins

/-- a number in decimal -/
def numS (n : Nat) : ByteArray := ⟨(Lib.decDigits n).toArray⟩
theorem digit_at : ∀ n : Fin 10, (({ data := #[48, 49, 50, 51, 52, 53, 54, 55, 56, 57] } : ByteArray).extract n.val (n.val + 1)) = numS n.val := by decide +kernel
theorem numS_two : ∀ n : Fin 100, 10 ≤ n.val → numS (n.val / 10) ++ numS (n.val % 10) = numS n.val := by decide +kernel
theorem numS_size : ∀ n : Fin 100, (numS n.val).size ≤ 2 := by decide +kernel
theorem numS_le {x : Int} (h : 0 ≤ x ∧ x < 100) : (numS x.toNat).size ≤ 2 := numS_size ⟨x.toNat, by omega⟩
theorem fits_str {a b : ByteArray} {m : Nat} (ha : a.size ≤ m) (hb : b.size ≤ m) (hm : m ≤ 100000) : ¬ 9223372036854775807 < a.size + b.size := by omega
theorem number_one (n : Nat) (w : World) (h : n < 10) : Calls Tryz.prog 28 #[.int .i64 n] w fun e w' => e = .returned (.string (numS n)) ∧ w = w' := by
  have e := digit_at ⟨n, h⟩
  simp only at e
  go_enter Tryz.func28, Tryz.ntmps28
  go_wp2
  go_ret
  exact ⟨rfl, rfl⟩
set_option maxRecDepth 100000 in
theorem number_any (n : Nat) (w : World) (h : n < 100) : Calls Tryz.prog 28 #[.int .i64 n] w fun e w' => e = .returned (.string (numS n)) ∧ w = w' := by
  by_cases h10 : n < 10
  · exact number_one n w h10
  · have e := numS_two ⟨n, h⟩ (by simp only; omega)
    simp only at e
    have h1 : Int.tdiv (n : Int) 10 = ((n / 10 : Nat) : Int) := by rw [Int.tdiv_eq_ediv_of_nonneg (by omega)]; omega
    have h2 : Int.tmod (n : Int) 10 = ((n % 10 : Nat) : Int) := by rw [Int.tmod_eq_emod_of_nonneg (by omega)]; omega
    obtain ⟨q, hq⟩ : ∃ q, n / 10 = q := ⟨_, rfl⟩
    obtain ⟨r, hr⟩ : ∃ r, n % 10 = r := ⟨_, rfl⟩
    rw [hq] at h1 e
    rw [hr] at h2 e
    have HE := hide e
    have hq10 : q < 10 := by omega
    have hr10 : r < 10 := by omega
    have hn : ¬ ((n : Int) < 10) := by omega
    have hsz := fits_str (m := 2) (numS_size ⟨q, by omega⟩) (numS_size ⟨r, by omega⟩) (by decide)
    simp only at hsz
    clear e hq hr
    go_enter Tryz.func28, Tryz.ntmps28
    go_wp2_with (go_at_call 28; refine (number_one _ _ (by first | exact hq10 | exact hr10)).mono ?_; rintro e w' ⟨rfl, rfl⟩)
    rw [HE.out]
    go_ret
    exact ⟨rfl, rfl⟩
/-- the text of the first k numbers -/
def lstS (zs : List Int) : Nat → ByteArray
  | 0 => ⟨#[]⟩
  | k + 1 => (if k = 0 then lstS zs k else lstS zs k ++ ⟨#[44]⟩) ++ numS (zs.getD k 0).toNat
theorem lstS_one (zs : List Int) : lstS zs 1 = ⟨#[]⟩ ++ numS (zs.getD 0 0).toNat := rfl
theorem lstS_more (zs : List Int) {k : Nat} (h : k ≠ 0) : lstS zs (k + 1) = lstS zs k ++ ⟨#[44]⟩ ++ numS (zs.getD k 0).toNat := by rw [lstS, if_neg h]
theorem lstS_size {zs : List Int} (hb : ∀ x ∈ zs, 0 ≤ x ∧ x < 100) : ∀ k, k ≤ zs.length → (lstS zs k).size ≤ 3 * k
  | 0, _ => Nat.le_refl _
  | k + 1, h => by
    have h1 := lstS_size hb k (by omega)
    have h2 := numS_le (hb _ (List.getElem_mem (show k < zs.length by omega)))
    rw [← getD_lt (show k < zs.length by omega)] at h2
    by_cases h0 : k = 0
    · subst h0
      rw [lstS_one, ByteArray.size_append]
      show 0 + _ ≤ _
      omega
    · rw [lstS_more zs h0, ByteArray.size_append, ByteArray.size_append]
      show _ + 1 + _ ≤ _
      omega
theorem number_was (x : Int) (S : ByteArray) (w : World) (h : 0 ≤ x ∧ x < 100) (hS : numS x.toNat = S) : Calls Tryz.prog 28 #[.int .i64 x] w fun e w' => e = .returned (.string S) ∧ w = w' := by
  obtain ⟨n, rfl⟩ := Int.eq_ofNat_of_zero_le h.1
  subst hS
  exact number_any n w (by omega)
theorem listText_any (a : Option Addr) (cap : Nat) (zs : List Int) (w : World) (hi : Ints w a zs) (hb : ∀ x ∈ zs, 0 ≤ x ∧ x < 100) (hn : zs.length ≤ 32) :
    Calls Tryz.prog 20 #[.slice a zs.length cap] w fun e w' => e = .returned (.string (lstS zs zs.length)) ∧ w = w' := by
  go_enter Tryz.func20, Tryz.ntmps20
  go_wp2_with fail
  go_loop [3, 4] (fun s i => ∃ k : Nat, k ≤ zs.length ∧ i = .int .i64 k ∧ s = .string (lstS zs k)) (fun _ i => zs.length - (intOf i).toNat)
  case atStart => exact ⟨0, Nat.zero_le _, rfl, rfl⟩
  case round =>
    obtain ⟨k, hk, rfl, rfl⟩ := hrel
    by_cases hlt : k < zs.length
    · obtain ⟨b, off, rfl, hbl, hc⟩ := hi (by omega)
      have hck := hc k hlt
      obtain ⟨x, hx⟩ : ∃ x, x = zs.getD k 0 := ⟨_, rfl⟩
      have hx2 : 0 ≤ x ∧ x < 100 := by rw [hx, getD_lt hlt]; exact hb _ (List.getElem_mem hlt)
      rw [← hx] at hck
      have hSs := numS_le hx2
      have hTs := lstS_size hb k hk
      obtain ⟨S, hS⟩ : ∃ S, numS x.toNat = S := ⟨_, rfl⟩
      rw [hS] at hSs
      have HS := hide hS
      obtain ⟨T, hT⟩ : ∃ T, T = lstS zs k := ⟨_, rfl⟩
      rw [← hT] at hTs
      rw [← hT]
      have f1 := fits_str (m := 1000) (a := T) (b := S) (by omega) (by omega) (by decide)
      have f2 := fits_str (m := 1000) (a := T) (b := ⟨#[44]⟩) (by omega) (by decide) (by decide)
      have f3 := fits_str (m := 1000) (a := T ++ ⟨#[44]⟩) (b := S) (by rw [ByteArray.size_append]; show _ + 1 ≤ _; omega) (by omega) (by decide)
      by_cases h0 : k = 0
      · subst h0
        have HL : Hid (lstS zs 1 = T ++ S) := by unfold Hid; rw [lstS_one, ← hx, hS, hT]; rfl
        rw [Nat.add_zero] at hck
        clear hc hb hS hT hx
        go_wp2_with (go_at_call 28; refine (number_was _ _ _ hx2 HS.out).mono ?_; rintro e w' ⟨rfl, rfl⟩)
        go_round
        case rel => exact ⟨1, by omega, by go_num, by rw [HL.out]⟩
        case measure => simp only [intOf]; omega
      · have HL : Hid (lstS zs (k + 1) = T ++ ⟨#[44]⟩ ++ S) := by unfold Hid; rw [lstS_more zs h0, ← hx, hS, hT]
        have hk0 : (0 : Int) < (k : Int) := by omega
        have hk1 : 0 < k := by omega
        clear hc hb hS hT hx
        go_wp2_with (go_at_call 28; refine (number_was _ _ _ hx2 HS.out).mono ?_; rintro e w' ⟨rfl, rfl⟩)
        go_round
        case rel => exact ⟨k + 1, by omega, by go_num, by rw [HL.out]⟩
        case measure => simp only [intOf]; omega
    · obtain rfl : k = zs.length := by omega
      go_wp2
      go_ret
      exact ⟨rfl, rfl⟩
theorem valid_len {n : Int} {zs : List Int} (h : Valid n zs) : zs.length ≤ 16 := by
  have hr := valid_range h
  have key : ∀ k, k < zs.length → (k : Int) ≤ zs.getD k 0 := by
    intro k
    induction k with
    | zero => intro hk; exact (h.2.2 0 hk).1.1
    | succ k ih => intro hk; have h1 := ih (by omega); have h2 := (h.2.2 (k + 1) hk).2 (by omega); simp only [Nat.add_sub_cancel] at h2; omega
  rcases Nat.lt_or_ge 16 zs.length with hl | hl
  · have h1 := key 16 hl
    have h2 := hr _ (List.getElem_mem hl)
    rw [getD_lt hl] at h1
    omega
  · exact hl
/-- the text of a space -/
def spcS (n : Int) (zs : List Int) : ByteArray := if vsB n zs = true then numS n.toNat ++ ⟨#[58]⟩ ++ lstS zs zs.length else ⟨#[]⟩
set_option maxHeartbeats 2000000 in
theorem specText_any (n : Int) (a : Option Addr) (cap : Nat) (zs : List Int) (w : World) (hi : Ints w a zs) (hn : zs.length ≤ 1048576) :
    Calls Tryz.prog 16 #[.agg #[.int .i64 n, .slice a zs.length cap]] w fun e w' => e = .returned (.string (spcS n zs)) ∧ Below w.heap.size w w' := by
  by_cases hv : vsB n zs = true
  · have hV := valid_of hv
    have hr := valid_range hV
    have hl := valid_len hV
    have HV := hide hv
    have HS : Hid (spcS n zs = numS n.toNat ++ ⟨#[58]⟩ ++ lstS zs zs.length) := if_pos hv
    have hn4 : 0 ≤ n ∧ n < 100 := by have := hV.1; omega
    obtain ⟨N, hN⟩ : ∃ N, numS n.toNat = N := ⟨_, rfl⟩
    have HN := hide hN
    rw [hN] at HS
    obtain ⟨T, hT⟩ : ∃ T, lstS zs zs.length = T := ⟨_, rfl⟩
    rw [hT] at HS
    have HT := hide hT
    have HR : Hid (∀ x ∈ zs, (0 : Int) ≤ x ∧ x < 100) := fun x hx => ⟨(hr x hx).1, by have := (hr x hx).2; omega⟩
    have bx := Box.new w n a zs.length cap 37
    have ia := hi.below (bel1 w (.cells #[.int .i64 n, .slice a zs.length cap] 37))
    clear hv hV hr hN hT hi
    go_enter Tryz.func16, Tryz.ntmps16
    go_wp2_with fail
    refine (validSpace_any _ _ _ _ _ ia hn).mono ?_
    rintro e w1 ⟨rfl, B1⟩
    rw [HV.out]
    obtain ⟨_, c0, c1⟩ := bx.below B1
    have hNs := numS_le hn4
    rw [HN.out] at hNs
    have hTs := lstS_size HR.out zs.length (Nat.le_refl _)
    rw [HT.out] at hTs
    have f1 := fits_str (m := 1000) (a := N) (b := ⟨#[58]⟩) (by omega) (by decide) (by decide)
    have f2 := fits_str (m := 1000) (a := N ++ ⟨#[58]⟩) (b := T) (by rw [ByteArray.size_append]; show _ + 1 ≤ _; omega) (by omega) (by decide)
    have iw := ia.below (bdrew' B1)
    go_wp2
    go_region_with (first
      | (go_at_call 28; refine (number_was _ N _ hn4 HN.out).mono ?_; rintro e w' ⟨rfl, rfl⟩)
      | (go_at_call 20; refine (listText_any _ _ _ _ iw HR.out (by omega)).mono ?_; rintro e w' ⟨rfl, rfl⟩; rw [HT.out]))
    all_goals
      go_wp2
      go_ret
      rw [HS.out]
      exact ⟨rfl, bdrew' ((bel1 w _).trans (B1.mono (by simp)))⟩
  · have hv : vsB n zs = false := by simpa using hv
    have HV := hide hv
    have HS : Hid (spcS n zs = ⟨#[]⟩) := if_neg (by rw [hv]; decide)
    clear hv
    go_enter Tryz.func16, Tryz.ntmps16
    go_wp2_with fail
    refine (validSpace_any _ _ _ _ _ (hi.below (bel1 w _)) hn).mono ?_
    rintro e w1 ⟨rfl, B1⟩
    rw [HV.out]
    go_wp2
    go_ret
    rw [HS.out]
    exact ⟨rfl, (bel1 w _).trans (B1.mono (by simp))⟩
end Go.Proofs.YtgebplpbnaeckaaGreatDoor

/- TxtI: The text of a space, of the program. -/
namespace Go.Proofs.YtgebplpbnaeckaaGreatDoor
open Go.RowKit Go.Joins

/-- the texts of numbers -/
def txtL (zs : List Int) : List ByteArray := zs.map fun x => numS x.toNat
theorem join_snoc (x : List UInt8) : ∀ r : List (List UInt8), r ≠ [] → Lib.join (r ++ [x]) [44] = Lib.join r [44] ++ [44] ++ x
  | [], h => absurd rfl h
  | y :: r, _ => by
    rw [List.cons_append, Lib.join_cons, Lib.join_cons]
    simp [Lib.joinTail]
theorem lst_join (zs : List Int) : ∀ k, k ≤ zs.length → (lstS zs k).data.toList = Lib.join (((txtL zs).take k).map (·.data.toList)) [44]
  | 0, _ => rfl
  | k + 1, h => by
    have ih := lst_join zs k (by omega)
    have hk : k < (txtL zs).length := by unfold txtL; simp; omega
    rw [List.take_succ_eq_append_getElem hk, List.map_append, List.map_singleton]
    have hg : (txtL zs)[k] = numS (zs.getD k 0).toNat := by
      rw [getD_lt (show k < zs.length by omega)]
      exact List.getElem_map _
    rw [hg]
    by_cases h0 : k = 0
    · subst h0
      rw [lstS_one]
      simp [Lib.join_one, ByteArray.data_append]
    · rw [lstS_more zs h0, join_snoc _ _ (by
        intro e
        have := congrArg List.length e
        rw [List.length_map, List.length_take, Nat.min_eq_left (by omega)] at this
        exact h0 this), ← ih]
      simp [ByteArray.data_append]
theorem lst_all (zs : List Int) : ⟨(Lib.join ((txtL zs).map (·.data.toList)) [44]).toArray⟩ = lstS zs zs.length := by
  have h := lst_join zs zs.length (Nat.le_refl _)
  rw [show (txtL zs).take zs.length = txtL zs from by rw [List.take_of_length_le]; simp [txtL]] at h
  rw [← h]
theorem info_string : (Tryz.prog.info? 9).map (fun i => (i.zero, i.size, i.bytes)) = some (some (.string ⟨#[]⟩), 1, 16) := by kernel_rfl
theorem madeStrs (n : Nat) : (madeCells #[Value.string ⟨#[]⟩] n).toList = (List.replicate n (⟨#[]⟩ : ByteArray)).map Value.string := by
  refine List.ext_getElem (by simp [madeCells]) fun i h1 h2 => ?_
  simp [madeCells, Nat.mod_one]
/-- the texts while the first k are written -/
def txtTo (zs : List Int) (k : Nat) : List ByteArray := (txtL zs).take k ++ List.replicate (zs.length - k) ⟨#[]⟩
theorem txtTo_zero (zs : List Int) : txtTo zs 0 = List.replicate zs.length ⟨#[]⟩ := by simp [txtTo]
theorem txtL_len (zs : List Int) : (txtL zs).length = zs.length := by simp [txtL]
theorem txtTo_all (zs : List Int) : txtTo zs zs.length = txtL zs := by
  unfold txtTo
  rw [Nat.sub_self, List.replicate_zero, List.append_nil, List.take_of_length_le (by rw [txtL_len]; exact Nat.le_refl _)]
theorem txtTo_len (zs : List Int) (k : Nat) (h : k ≤ zs.length) : (txtTo zs k).length = zs.length := by
  unfold txtTo
  rw [List.length_append, List.length_take, txtL_len, List.length_replicate]; omega
theorem txtTo_set {zs : List Int} {k : Nat} (h : k < zs.length) : (txtTo zs k).set k (numS (zs.getD k 0).toNat) = txtTo zs (k + 1) := by
  have hk : k < (txtL zs).length := by rw [txtL_len]; exact h
  have hg : (txtL zs)[k] = numS (zs.getD k 0).toNat := by
    rw [getD_lt h]
    exact List.getElem_map _
  unfold txtTo
  rw [List.set_append_right _ _ (by rw [List.length_take]; omega), List.take_succ_eq_append_getElem hk, hg, List.append_assoc]
  congr 1
  rw [List.length_take, Nat.min_eq_left (by omega), Nat.sub_self, show zs.length - k = (zs.length - (k + 1)) + 1 from by omega, List.replicate_succ]
  rfl
theorem join_len : ∀ ls : List (List UInt8), (∀ l ∈ ls, l.length ≤ 2) → (Lib.join ls [44]).length ≤ 3 * ls.length
  | [], _ => by simp [Lib.join_nil]
  | x :: r, h => by
    rw [Lib.join_cons, List.length_append, List.length_cons]
    have h1 := h x (by simp)
    have key : ∀ r : List (List UInt8), (∀ l ∈ r, l.length ≤ 2) → (Lib.joinTail [44] r).length ≤ 3 * r.length := by
      intro r
      induction r with
      | nil => intro _; simp [Lib.joinTail]
      | cons y r ih =>
        intro hr
        have h2 := hr y (by simp)
        have h3 := ih (fun l hl => hr l (by simp [hl]))
        simp only [Lib.joinTail, List.map_cons, List.flatten_cons, List.length_append, List.length_cons, List.length_nil] at h3 ⊢
        omega
    have := key r (fun l hl => h l (by simp [hl]))
    omega
theorem itoa_was (x : Int) (S : ByteArray) (w : World) (h : 0 ≤ x ∧ x < 100) (hS : numS x.toNat = S) : Calls Tryz.prog 73 #[.int .i64 x] w fun e w' => e = .returned (.string S) ∧ w' = w := by
  obtain ⟨n, rfl⟩ := Int.eq_ofNat_of_zero_le h.1
  subst hS
  exact Tryz.strconv_Itoa_small n (by omega) w
theorem join_was (bk c n : Nat) (xs : List ByteArray) (T : ByteArray) (w : World) (hown : w.ownsRow bk 9 1 (.slice (some ⟨bk, 0, none⟩) n c) n (xs.map Value.string)) (hn : xs.length = n) (h32 : n ≤ 32) (hc : n ≤ c) (hs : ∀ s ∈ xs, s.size ≤ 2) (hT : ⟨(Lib.join (xs.map (·.data.toList)) [44]).toArray⟩ = T) :
    Calls Tryz.prog 109 #[.slice (some ⟨bk, 0, none⟩) n c, .string ⟨#[44]⟩] w fun e w' => e = .returned (.string T) ∧ Below w.heap.size w w' := by
  subst hn hT
  refine Tryz.strings_Join bk 0 c xs ⟨#[44]⟩ w (fun j x hx => ?_) (World.ownsRow.lt hown bk rfl).2 (by omega) hc ?_
  · have hj : j < xs.length := (List.getElem?_eq_some_iff.1 hx).1
    rw [Nat.zero_add, hown.cellAt j (by omega), List.getElem?_map, hx]
    rfl
  · have h1 := join_len (xs.map (·.data.toList)) (fun l hl => by
      obtain ⟨s, hm, rfl⟩ := List.mem_map.1 hl
      have := hs s hm
      rw [Array.length_toList]
      exact this)
    rw [List.length_map] at h1
    show (Lib.join _ [44]).length ≤ _
    omega
set_option maxHeartbeats 1000000 in
set_option maxRecDepth 100000 in
theorem numbersText_any (a : Option Addr) (cap : Nat) (zs : List Int) (w : World) (hi : Ints w a zs) (hb : ∀ x ∈ zs, 0 ≤ x ∧ x < 100) (hn : zs.length ≤ 32) :
    Calls Tryz.prog 84 #[.slice a zs.length cap] w fun e w' => e = .returned (.string (lstS zs zs.length)) ∧ Below w.heap.size w w' := by
  obtain ⟨i0, hi0, hz0, hz1, hz2⟩ := info_parts info_string
  go_enter Tryz.func84, Tryz.ntmps84
  go_wp2_with (at_make; refine wpList_make_full _ rfl _ _ 23 rfl w.heap.size 9 i0 (.string ⟨#[]⟩) 1 Tryz.underlying23 hi0 hz0 hz1 _ _ _ _ zs.length rfl rfl (by omega) (by omega) ?b2 ?b3 (Nat.le_refl _) ?_)
  case b2 => rw [hz2]; omega
  case b3 => unfold maxLen; omega
  intro w0 hown0 hgrow0
  rw [madeStrs] at hown0
  have B0 : Below w.heap.size w w0 := (Below.refl _ _).grown hgrow0 (Nat.le_refl _) (fun k h => by cases h)
  have hs0 : w.heap.size + 1 ≤ w0.heap.size := (World.ownsRow.lt hown0 w.heap.size rfl).2
  clear hgrow0
  go_wp2
  go_loopw [11] (fun i wr => ∃ k : Nat, k ≤ zs.length ∧ i = .int .i64 k ∧ wr.ownsRow w.heap.size 9 1 (.slice (some ⟨w.heap.size, 0, none⟩) zs.length zs.length) zs.length ((txtTo zs k).map Value.string) ∧ Below w.heap.size w wr ∧ w.heap.size + 1 ≤ wr.heap.size) (fun i _ => zs.length - (intOf i).toNat)
  case atStart => exact ⟨0, Nat.zero_le _, rfl, by rw [txtTo_zero]; exact hown0, B0, hs0⟩
  case round =>
    clear hown0 B0 hs0
    obtain ⟨k, hk, rfl, hown, BR, hs⟩ := hrel
    by_cases hlt : k < zs.length
    · obtain ⟨b, off, rfl, hb2, hc⟩ := hi.below BR (by omega)
      have hck := hc k hlt
      have HS := hide (txtTo_set hlt)
      obtain ⟨x, hx⟩ : ∃ x, x = zs.getD k 0 := ⟨_, rfl⟩
      have hx2 : 0 ≤ x ∧ x < 100 := by rw [hx, getD_lt hlt]; exact hb _ (List.getElem_mem hlt)
      rw [← hx] at hck HS
      obtain ⟨S, hS⟩ : ∃ S, numS x.toNat = S := ⟨_, rfl⟩
      rw [hS] at HS
      have HSS := hide hS
      have hl := txtTo_len zs k hk
      have hst := hown.cellAt k (by omega)
      rw [List.getElem?_map, List.getElem?_eq_getElem (by rw [hl]; exact hlt)] at hst
      simp only [Option.map_some] at hst
      obtain ⟨u, hu⟩ : ∃ u, u = (txtTo zs k)[k]'(by rw [hl]; exact hlt) := ⟨_, rfl⟩
      rw [← hu] at hst
      have hfz := hown.frozenAt k
      have HOW := hide hown
      clear hc hx hS hu hown hl
      go_wp2_with (go_at_call 73; refine (itoa_was _ S _ hx2 HSS.out).mono ?_; rintro e w' ⟨rfl, rfl⟩)
      go_roundw
      case rel => exact ⟨k + 1, by omega, by go_num, by rw [← HS.out, List.map_set]; exact (HOW.out.stored k _).1, BR.setCell (p := ⟨w.heap.size, k, none⟩) (Nat.le_refl _) _, by simp; omega⟩
      case measure => simp only [intOf]; omega
    · obtain rfl : k = zs.length := by omega
      rw [txtTo_all] at hown
      have HT := hide (lst_all zs)
      have HSZ : Hid (∀ s ∈ txtL zs, s.size ≤ 2) := fun s hs => by
        unfold txtL at hs
        obtain ⟨x, hx, rfl⟩ := List.mem_map.1 hs
        exact numS_le (hb x hx)
      have HOW := hide hown
      clear hown
      go_wp2_with fail
      refine (join_was _ _ _ (txtL zs) _ _ HOW.out (txtL_len zs) hn (Nat.le_refl _) HSZ.out HT.out).mono ?_
      rintro e w2 ⟨rfl, hb2⟩
      go_wp2
      go_ret
      exact ⟨rfl, bnext BR hb2⟩
end Go.Proofs.YtgebplpbnaeckaaGreatDoor

/- PrsM: Texts in pieces: mathematics; nothing of the program. -/
namespace Go.Proofs.YtgebplpbnaeckaaGreatDoor

/-- the pieces of a text between the bytes of a kind -/
def spl (c : UInt8) : List UInt8 → List (List UInt8)
  | [] => [[]]
  | b :: r => if b = c then [] :: spl c r else match spl c r with
    | [] => [[b]]
    | p :: ps => (b :: p) :: ps
theorem spl_ne (c : UInt8) : ∀ l, spl c l ≠ []
  | [] => by simp [spl]
  | b :: r => by
    unfold spl
    split
    · simp
    · split <;> simp
theorem spl_at (c : UInt8) (l : List UInt8) : spl c (c :: l) = [] :: spl c l := by rw [spl, if_pos rfl]
theorem spl_cons {c b : UInt8} (h : b ≠ c) (l : List UInt8) : ∃ p ps, spl c l = p :: ps ∧ spl c (b :: l) = (b :: p) :: ps := by
  obtain ⟨p, ps, e⟩ := List.exists_cons_of_ne_nil (spl_ne c l)
  exact ⟨p, ps, e, by rw [spl, if_neg h, e]⟩
theorem spl_none {c : UInt8} : ∀ {l : List UInt8}, ¬ c ∈ l → spl c l = [l]
  | [], _ => rfl
  | b :: r, h => by
    have hb : b ≠ c := fun e => h (by simp [e])
    obtain ⟨p, ps, e1, e2⟩ := spl_cons hb r
    rw [spl_none (fun hm => h (by simp [hm]))] at e1
    cases e1
    exact e2
theorem spl_app {c : UInt8} (b : List UInt8) : ∀ {a : List UInt8}, ¬ c ∈ a → spl c (a ++ c :: b) = a :: spl c b
  | [], _ => spl_at c b
  | x :: a, h => by
    have hx : x ≠ c := fun e => h (by simp [e])
    obtain ⟨p, ps, e1, e2⟩ := spl_cons hx (a ++ c :: b)
    rw [spl_app b (fun hm => h (by simp [hm]))] at e1
    cases e1
    exact e2
theorem join_cc (x y sep : List UInt8) (r : List (List UInt8)) : Lib.join (x :: y :: r) sep = x ++ sep ++ Lib.join (y :: r) sep := by
  rw [Lib.join_cons, Lib.join_cons]
  simp [Lib.joinTail]
theorem join_spl (c : UInt8) : ∀ l, Lib.join (spl c l) [c] = l
  | [] => by simp [spl, Lib.join_one]
  | b :: r => by
    have ih := join_spl c r
    by_cases h : b = c
    · subst h
      obtain ⟨p, ps, e⟩ := List.exists_cons_of_ne_nil (spl_ne b r)
      rw [spl_at, e, join_cc, ← e, ih]
      rfl
    · obtain ⟨p, ps, e1, e2⟩ := spl_cons h r
      rw [e1] at ih
      rw [e2]
      rw [Lib.join_cons] at ih ⊢
      rw [List.cons_append, ih]
theorem spl_join {c : UInt8} : ∀ ls : List (List UInt8), ls ≠ [] → (∀ l ∈ ls, ¬ c ∈ l) → spl c (Lib.join ls [c]) = ls
  | [], h, _ => absurd rfl h
  | [x], _, h => by rw [Lib.join_one]; exact spl_none (h x (by simp))
  | x :: y :: r, _, h => by
    rw [join_cc, List.append_assoc]
    show spl c (x ++ c :: Lib.join (y :: r) [c]) = _
    rw [spl_app _ (h x (by simp)), spl_join (y :: r) (by simp) (fun l hl => h l (by simp only [List.mem_cons] at hl ⊢; exact .inr hl))]
/-- where a byte is first -/
theorem idx_cases (c : UInt8) : ∀ l : List UInt8, (Lib.indexByte l c = -1 ∧ ¬ c ∈ l) ∨ ∃ a b, l = a ++ c :: b ∧ ¬ c ∈ a ∧ Lib.indexByte l c = (a.length : Int)
  | [] => .inl ⟨rfl, by simp⟩
  | x :: l => by
    by_cases h : x = c
    · subst h
      exact .inr ⟨[], l, rfl, by simp, by simp [Lib.indexByte]⟩
    · have hb : (x == c) = false := by simpa using h
      rcases idx_cases c l with ⟨e, hn⟩ | ⟨a, b, rfl, hn, e⟩
      · refine .inl ⟨?_, ?_⟩
        · unfold Lib.indexByte; rw [hb, e]; rfl
        · simp only [List.mem_cons, not_or]; exact ⟨fun e => h e.symm, hn⟩
      · refine .inr ⟨x :: a, b, rfl, ?_, ?_⟩
        · simp only [List.mem_cons, not_or]; exact ⟨fun e => h e.symm, hn⟩
        · unfold Lib.indexByte
          rw [hb, e, if_neg (by decide), if_neg (by simp only [beq_iff_eq]; omega), List.length_cons]
          omega
/-- strings.Split as the library tells it -/
theorem split_spl (c : UInt8) : ∀ (k : Nat) (s : ByteArray), s.size ≤ k → (Lib.splitB ⟨#[c]⟩ 0 (Lib.countB s ⟨#[c]⟩) s).map (·.data.toList) = spl c s.data.toList := by
  intro k
  induction k with
  | zero =>
    intro s hs
    have hi : Lib.indexB s ⟨#[c]⟩ = -1 := by
      rcases Lib.indexB_cases s ⟨#[c]⟩ with e | ⟨i, e, h⟩
      · exact e
      · have : (⟨#[c]⟩ : ByteArray).size = 1 := rfl
        omega
    rw [Lib.splitB_miss _ _ _ _ hi]
    have h0 : s.data.toList = [] := List.length_eq_zero_iff.1 (by rw [Array.length_toList]; have : s.size = s.data.size := rfl; omega)
    rw [List.map_singleton, h0]
    rfl
  | succ k ih =>
    intro s hs
    have hx : Lib.indexB s ⟨#[c]⟩ = Lib.indexByte s.data.toList c := Lib.index_one _ _
    rcases idx_cases c s.data.toList with ⟨e, hn⟩ | ⟨a, b, hl, hn, e⟩
    · rw [Lib.splitB_miss _ _ _ _ (hx.trans e), List.map_singleton, spl_none hn]
    · have hi := hx.trans e
      have hlen : s.size = a.length + 1 + b.length := by
        have : s.size = s.data.toList.length := by rw [Array.length_toList]; rfl
        rw [this, hl]; simp; omega
      have hd : (s.extract (a.length + 1) s.size).data.toList = b := by
        simp only [ByteArray.data_extract, Array.toList_extract]
        simp [List.extract, hlen]
        rw [hl]
        simp
      have ht : (s.extract 0 (a.length + 0)).data.toList = a := by
        simp only [ByteArray.data_extract, Array.toList_extract]
        simp [List.extract]
        rw [hl]
        simp
      have h1 : (⟨#[c]⟩ : ByteArray).size = 1 := rfl
      rw [Lib.countB_hit s ⟨#[c]⟩ a.length (by rw [h1]; exact Nat.le_refl _) hi, Nat.add_comm 1, Lib.splitB_hit _ _ _ _ _ hi, List.map_cons, ht, h1]
      have := ih (s.extract (a.length + 1) s.size) (by
        have : (s.extract (a.length + 1) s.size).size = b.length := by
          have h2 : (s.extract (a.length + 1) s.size).size = (s.extract (a.length + 1) s.size).data.toList.length := by rw [Array.length_toList]; rfl
          rw [h2, hd]
        omega)
      rw [this, hd, hl, spl_app b hn]
/-- strings.Cut as the library tells it -/
theorem cut_spl (c : UInt8) (l : List UInt8) : (¬ c ∈ l ∧ Lib.cut l [c] = (l, [], false)) ∨ ∃ a b, l = a ++ c :: b ∧ ¬ c ∈ a ∧ Lib.cut l [c] = (a, b, true) := by
  rcases idx_cases c l with ⟨e, hn⟩ | ⟨a, b, rfl, hn, e⟩
  · refine .inl ⟨hn, ?_⟩
    unfold Lib.cut
    rw [Lib.index_one, e, if_neg (by decide)]
  · refine .inr ⟨a, b, rfl, hn, ?_⟩
    unfold Lib.cut
    rw [Lib.index_one, e, if_pos (by omega)]
    simp
end Go.Proofs.YtgebplpbnaeckaaGreatDoor

/- PrsN: What a text is read as: mathematics; nothing of the program. -/
namespace Go.Proofs.YtgebplpbnaeckaaGreatDoor

/-- the model's reading of digits -/
def rdL : List UInt8 → Nat → Int
  | [], n => (n : Int)
  | b :: r, n => if b.toNat < 48 ∨ 57 < b.toNat ∨ 1000 < n then -1 else rdL r (10 * n + (b.toNat - 48))
theorem rdL_in : ∀ (l : List UInt8) (n : Nat), n ≤ 10009 → -1 ≤ rdL l n ∧ rdL l n ≤ 10009
  | [], n, h => by simp [rdL]; omega
  | b :: r, n, h => by
    unfold rdL
    split
    · decide
    · rename_i hc
      exact rdL_in r _ (by omega)
/-- the number that a text is, of the model -/
def rdN (l : List UInt8) : Int := if rdL l 0 < 0 then -1 else if l = [] ∨ Lib.decDigits (rdL l 0).toNat ≠ l then -1 else rdL l 0
theorem rdN_dec : ∀ n : Fin 16, rdN (Lib.decDigits n.val) = (n.val : Int) := by decide +kernel
theorem rdN_iff {l : List UInt8} {x : Int} (h : 0 ≤ x ∧ x ≤ 15) : rdN l = x ↔ l = Lib.decDigits x.toNat := by
  constructor
  · intro e
    unfold rdN at e
    split at e
    · omega
    · split at e
      · omega
      · rename_i h2
        rw [not_or, Classical.not_not] at h2
        rw [← e]
        exact h2.2.symm
  · intro e
    have := rdN_dec ⟨x.toNat, by omega⟩
    simp only at this
    rw [e, this]
    omega
/-- the number that a text is, of the program -/
def prN (l : List UInt8) : Option Int := match Lib.atoiAll l with
  | .ok x => if Lib.itoa x = l then some x else none
  | _ => none
theorem prN_dec : ∀ n : Fin 16, prN (Lib.decDigits n.val) = some (n.val : Int) := by decide +kernel
theorem prN_nil : prN [] = none := rfl
theorem prN_iff {l : List UInt8} {x : Int} (h : 0 ≤ x ∧ x ≤ 15) : prN l = some x ↔ l = Lib.decDigits x.toNat := by
  constructor
  · intro e
    unfold prN at e
    split at e
    · split at e
      · rename_i h2
        cases e
        rw [← h2]
        unfold Lib.itoa
        rw [if_neg (by omega)]
      · cases e
    · cases e
  · intro e
    have := prN_dec ⟨x.toNat, by omega⟩
    simp only at this
    rw [e, this]
    congr 1
    omega
def prL : List (List UInt8) → Option (List Int)
  | [] => some []
  | p :: ps => match prN p with
    | none => none
    | some x => match prL ps with
      | none => none
      | some xs => some (x :: xs)
theorem prL_iff : ∀ {ps : List (List UInt8)} {zs : List Int}, (∀ z ∈ zs, 0 ≤ z ∧ z ≤ 15) → (prL ps = some zs ↔ ps = zs.map fun x => Lib.decDigits x.toNat)
  | [], zs, _ => by
    constructor
    · intro e; cases e; rfl
    · intro e
      have : zs = [] := by simpa using e.symm
      subst this; rfl
  | p :: ps, zs, h => by
    constructor
    · intro e
      unfold prL at e
      split at e
      · cases e
      · rename_i x hx
        split at e
        · cases e
        · rename_i xs hxs
          cases e
          rw [List.map_cons, (prN_iff (h x (by simp))).1 hx, (prL_iff (fun z hz => h z (by simp [hz]))).1 hxs]
    · intro e
      cases zs with
      | nil => cases e
      | cons z zs =>
        rw [List.map_cons, List.cons.injEq] at e
        unfold prL
        rw [(prN_iff (h z (by simp))).2 e.1]
        simp only
        rw [(prL_iff (fun y hy => h y (by simp [hy]))).2 e.2]
theorem rdM_iff : ∀ {ps : List (List UInt8)} {zs : List Int}, (∀ z ∈ zs, 0 ≤ z ∧ z ≤ 15) → (ps.map rdN = zs ↔ ps = zs.map fun x => Lib.decDigits x.toNat)
  | [], zs, _ => by
    constructor
    · intro e; rw [← e]; rfl
    · intro e
      have : zs = [] := by simpa using e.symm
      subst this; rfl
  | p :: ps, [], _ => by simp
  | p :: ps, z :: zs, h => by
    rw [List.map_cons, List.map_cons, List.cons.injEq, List.cons.injEq, rdN_iff (h z (by simp)), rdM_iff (fun y hy => h y (by simp [hy]))]
/-- l is the text of a valid space -/
def TS (l : List UInt8) (n : Int) (zs : List Int) : Prop := Valid n zs ∧ l = Lib.decDigits n.toNat ++ 58 :: Lib.join (zs.map fun x => Lib.decDigits x.toNat) [44]
theorem dec_clean : ∀ n : Fin 16, ¬ (58 : UInt8) ∈ Lib.decDigits n.val ∧ ¬ (44 : UInt8) ∈ Lib.decDigits n.val := by decide +kernel
theorem dec_of {x : Int} (h : 0 ≤ x ∧ x ≤ 15) : ¬ (58 : UInt8) ∈ Lib.decDigits x.toNat ∧ ¬ (44 : UInt8) ∈ Lib.decDigits x.toNat := dec_clean ⟨x.toNat, by omega⟩
theorem join_clean {c d : UInt8} (hcd : c ≠ d) : ∀ ls : List (List UInt8), (∀ l ∈ ls, ¬ c ∈ l) → ¬ c ∈ Lib.join ls [d]
  | [], _ => by simp [Lib.join_nil]
  | [x], h => by rw [Lib.join_one]; exact h x (by simp)
  | x :: y :: r, h => by
    rw [join_cc]
    simp only [List.mem_append, List.mem_singleton, not_or]
    exact ⟨⟨h x (by simp), hcd⟩, join_clean hcd (y :: r) (fun l hl => h l (by simp only [List.mem_cons] at hl ⊢; exact .inr hl))⟩
theorem ts_facts {l : List UInt8} {n : Int} {zs : List Int} (h : TS l n zs) : spl 58 l = [Lib.decDigits n.toNat, Lib.join (zs.map fun x => Lib.decDigits x.toNat) [44]] ∧ spl 44 (Lib.join (zs.map fun x => Lib.decDigits x.toNat) [44]) = zs.map fun x => Lib.decDigits x.toNat := by
  obtain ⟨hV, rfl⟩ := h
  have hr := valid_range hV
  have hm : ∀ l ∈ (zs.map fun x => Lib.decDigits x.toNat), ¬ (58 : UInt8) ∈ l ∧ ¬ (44 : UInt8) ∈ l := fun l hl => by
    obtain ⟨x, hx, rfl⟩ := List.mem_map.1 hl
    exact dec_of (hr x hx)
  have hne : (zs.map fun x => Lib.decDigits x.toNat) ≠ [] := fun e => by
    have h0 := hV.2.1
    have : zs = [] := by simpa using e
    subst this; simp at h0
  refine ⟨?_, spl_join _ hne (fun l hl => (hm l hl).2)⟩
  rw [spl_app _ (dec_of (by have := hV.1; omega)).1, spl_none (join_clean (by decide) _ (fun l hl => (hm l hl).1))]
/-- what the model reads -/
def parS (l : List UInt8) : Option (Int × List Int) := match spl 58 l with
  | [h, t] => if vsB (rdN h) ((spl 44 t).map rdN) = true then some (rdN h, (spl 44 t).map rdN) else none
  | _ => none
theorem parS_iff {l : List UInt8} {n : Int} {zs : List Int} : parS l = some (n, zs) ↔ TS l n zs := by
  constructor
  · intro e
    unfold parS at e
    split at e
    · rename_i h t hs
      split at e
      · rename_i hv
        simp only [Option.some.injEq, Prod.mk.injEq] at e
        obtain ⟨e1, e2⟩ := e
        rw [e1, e2] at hv
        have hV := valid_of hv
        have hr := valid_range hV
        have h1 := (rdN_iff (by have := hV.1; omega)).1 e1
        have h2 := (rdM_iff hr).1 e2
        refine ⟨hV, ?_⟩
        have h3 := join_spl 58 l
        rw [hs, join_cc, Lib.join_one] at h3
        have h4 := join_spl 44 t
        rw [h2] at h4
        rw [← h3, h1, ← h4]
        simp
      · cases e
    · cases e
  · intro h
    obtain ⟨f1, f2⟩ := ts_facts h
    have hV := h.1
    have hr := valid_range hV
    unfold parS
    rw [f1]
    simp only
    rw [f2, (rdN_iff (x := n) (by have := hV.1; omega)).2 rfl, (rdM_iff hr).2 rfl, if_pos (vsB_true hV)]
/-- what the program reads -/
def parI (l : List UInt8) : Option (Int × List Int) := match prN (Lib.cut l [58]).1, prL (spl 44 (Lib.cut l [58]).2.1) with
  | some n, some zs => if vsB n zs = true then some (n, zs) else none
  | _, _ => none
theorem parI_iff {l : List UInt8} {n : Int} {zs : List Int} : parI l = some (n, zs) ↔ TS l n zs := by
  constructor
  · intro e
    rcases cut_spl 58 l with ⟨hn, hc⟩ | ⟨a, b, rfl, hn, hc⟩
    · unfold parI at e
      rw [hc] at e
      simp only [spl, prL, prN_nil] at e
      split at e
      · rename_i h2; cases h2
      · cases e
    · unfold parI at e
      rw [hc] at e
      simp only at e
      split at e
      · rename_i x xs hx hxs
        split at e
        · rename_i hv
          cases e
          have hV := valid_of hv
          have hr := valid_range hV
          have h1 := (prN_iff (by have := hV.1; omega)).1 hx
          have h2 := (prL_iff hr).1 hxs
          have h4 := join_spl 44 b
          rw [h2] at h4
          exact ⟨hV, by rw [h1, h4]⟩
        · cases e
      · cases e
  · intro h
    obtain ⟨f1, f2⟩ := ts_facts h
    have hV := h.1
    have hr := valid_range hV
    rcases cut_spl 58 l with ⟨hn, hc⟩ | ⟨a, b, rfl, hn, hc⟩
    · rw [spl_none hn] at f1; cases f1
    · rw [spl_app _ hn] at f1
      simp only [List.cons.injEq] at f1
      have hb := join_spl 58 b
      rw [f1.2, Lib.join_one] at hb
      unfold parI
      rw [hc]
      simp only
      rw [f1.1, ← hb, f2, (prN_iff (x := n) (by have := hV.1; omega)).2 rfl, (prL_iff hr).2 rfl]
      simp only
      rw [if_pos (vsB_true hV)]
theorem par_same (l : List UInt8) : parI l = parS l := by
  cases h : parS l with
  | some p =>
    obtain ⟨n, zs⟩ := p
    exact parI_iff.2 (parS_iff.1 h)
  | none =>
    cases h2 : parI l with
    | none => rfl
    | some p =>
      obtain ⟨n, zs⟩ := p
      rw [parS_iff.2 (parI_iff.1 h2)] at h
      cases h
end Go.Proofs.YtgebplpbnaeckaaGreatDoor
