/- The text of a space, of the program. -/
import Derived.Test.YtcnoipghepjodaaDoorTxtS
import Derived.Deep.RegionWith
namespace Go.Proofs.YtcnoipghepjodaaDoor
open Go.RowKit Go.Joins

/-- the texts of numbers -/
def txtL (zs : List Int) : List ByteArray := zs.map fun x => numS x.toNat
theorem join_snoc (x : List UInt8) : ∀ r : List (List UInt8), r ≠ [] → Lib.join (r ++ [x]) [44] = Lib.join r [44] ++ [44] ++ x
  | [], h => absurd rfl h
  | y :: r, _ => by
    rw [List.cons_append, Lib.join_cons, Lib.join_cons]
    simp [Lib.joinTail]
theorem lst_join (zs : List Int) : ∀ k, k ≤ zs.length → (lstS zs k).data.toList = Lib.join (((txtL zs).take k).map (·.data.toList)) [44]
  | 0, _ => rfl
  | k + 1, h => by
    have ih := lst_join zs k (by omega)
    have hk : k < (txtL zs).length := by unfold txtL; simp; omega
    rw [List.take_succ_eq_append_getElem hk, List.map_append, List.map_singleton]
    have hg : (txtL zs)[k] = numS (zs.getD k 0).toNat := by
      rw [getD_lt (show k < zs.length by omega)]
      exact List.getElem_map _
    rw [hg]
    by_cases h0 : k = 0
    · subst h0
      rw [lstS_one]
      simp [Lib.join_one, ByteArray.data_append]
    · rw [lstS_more zs h0, join_snoc _ _ (by
        intro e
        have := congrArg List.length e
        rw [List.length_map, List.length_take, Nat.min_eq_left (by omega)] at this
        exact h0 this), ← ih]
      simp [ByteArray.data_append]
theorem lst_all (zs : List Int) : ⟨(Lib.join ((txtL zs).map (·.data.toList)) [44]).toArray⟩ = lstS zs zs.length := by
  have h := lst_join zs zs.length (Nat.le_refl _)
  rw [show (txtL zs).take zs.length = txtL zs from by rw [List.take_of_length_le]; simp [txtL]] at h
  rw [← h]
theorem info_string : (Tryd.prog.info? 9).map (fun i => (i.zero, i.size, i.bytes)) = some (some (.string ⟨#[]⟩), 1, 16) := by kernel_rfl
theorem madeStrs (n : Nat) : (madeCells #[Value.string ⟨#[]⟩] n).toList = (List.replicate n (⟨#[]⟩ : ByteArray)).map Value.string := by
  refine List.ext_getElem (by simp [madeCells]) fun i h1 h2 => ?_
  simp [madeCells, Nat.mod_one]
/-- the texts while the first k are written -/
def txtTo (zs : List Int) (k : Nat) : List ByteArray := (txtL zs).take k ++ List.replicate (zs.length - k) ⟨#[]⟩
theorem txtTo_zero (zs : List Int) : txtTo zs 0 = List.replicate zs.length ⟨#[]⟩ := by simp [txtTo]
theorem txtL_len (zs : List Int) : (txtL zs).length = zs.length := by simp [txtL]
theorem txtTo_all (zs : List Int) : txtTo zs zs.length = txtL zs := by
  unfold txtTo
  rw [Nat.sub_self, List.replicate_zero, List.append_nil, List.take_of_length_le (by rw [txtL_len]; exact Nat.le_refl _)]
theorem txtTo_len (zs : List Int) (k : Nat) (h : k ≤ zs.length) : (txtTo zs k).length = zs.length := by
  unfold txtTo
  rw [List.length_append, List.length_take, txtL_len, List.length_replicate]; omega
theorem txtTo_set {zs : List Int} {k : Nat} (h : k < zs.length) : (txtTo zs k).set k (numS (zs.getD k 0).toNat) = txtTo zs (k + 1) := by
  have hk : k < (txtL zs).length := by rw [txtL_len]; exact h
  have hg : (txtL zs)[k] = numS (zs.getD k 0).toNat := by
    rw [getD_lt h]
    exact List.getElem_map _
  unfold txtTo
  rw [List.set_append_right _ _ (by rw [List.length_take]; omega), List.take_succ_eq_append_getElem hk, hg, List.append_assoc]
  congr 1
  rw [List.length_take, Nat.min_eq_left (by omega), Nat.sub_self, show zs.length - k = (zs.length - (k + 1)) + 1 from by omega, List.replicate_succ]
  rfl
theorem join_len : ∀ ls : List (List UInt8), (∀ l ∈ ls, l.length ≤ 2) → (Lib.join ls [44]).length ≤ 3 * ls.length
  | [], _ => by simp [Lib.join_nil]
  | x :: r, h => by
    rw [Lib.join_cons, List.length_append, List.length_cons]
    have h1 := h x (by simp)
    have key : ∀ r : List (List UInt8), (∀ l ∈ r, l.length ≤ 2) → (Lib.joinTail [44] r).length ≤ 3 * r.length := by
      intro r
      induction r with
      | nil => intro _; simp [Lib.joinTail]
      | cons y r ih =>
        intro hr
        have h2 := hr y (by simp)
        have h3 := ih (fun l hl => hr l (by simp [hl]))
        simp only [Lib.joinTail, List.map_cons, List.flatten_cons, List.length_append, List.length_cons, List.length_nil] at h3 ⊢
        omega
    have := key r (fun l hl => h l (by simp [hl]))
    omega
theorem itoa_was (x : Int) (S : ByteArray) (w : World) (h : 0 ≤ x ∧ x < 100) (hS : numS x.toNat = S) : Calls Tryd.prog 22 #[.int .i64 x] w fun e w' => e = .returned (.string S) ∧ w' = w := by
  obtain ⟨n, rfl⟩ := Int.eq_ofNat_of_zero_le h.1
  subst hS
  exact Tryd.strconv_Itoa_small n (by omega) w
theorem join_was (bk c n : Nat) (xs : List ByteArray) (T : ByteArray) (w : World) (hown : w.ownsRow bk 9 1 (.slice (some ⟨bk, 0, none⟩) n c) n (xs.map Value.string)) (hn : xs.length = n) (h32 : n ≤ 32) (hc : n ≤ c) (hs : ∀ s ∈ xs, s.size ≤ 2) (hT : ⟨(Lib.join (xs.map (·.data.toList)) [44]).toArray⟩ = T) :
    Calls Tryd.prog 44 #[.slice (some ⟨bk, 0, none⟩) n c, .string ⟨#[44]⟩] w fun e w' => e = .returned (.string T) ∧ Below w.heap.size w w' := by
  subst hn hT
  refine Tryd.strings_Join bk 0 c xs ⟨#[44]⟩ w (fun j x hx => ?_) (World.ownsRow.lt hown bk rfl).2 (by omega) hc ?_
  · have hj : j < xs.length := (List.getElem?_eq_some_iff.1 hx).1
    rw [Nat.zero_add, hown.cellAt j (by omega), List.getElem?_map, hx]
    rfl
  · have h1 := join_len (xs.map (·.data.toList)) (fun l hl => by
      obtain ⟨s, hm, rfl⟩ := List.mem_map.1 hl
      have := hs s hm
      rw [Array.length_toList]
      exact this)
    rw [List.length_map] at h1
    show (Lib.join _ [44]).length ≤ _
    omega
set_option maxHeartbeats 1000000 in
set_option maxRecDepth 100000 in
theorem numbersText_any (a : Option Addr) (cap : Nat) (zs : List Int) (w : World) (hi : Ints w a zs) (hb : ∀ x ∈ zs, 0 ≤ x ∧ x < 100) (hn : zs.length ≤ 32) :
    Calls Tryd.prog 23 #[.slice a zs.length cap] w fun e w' => e = .returned (.string (lstS zs zs.length)) ∧ Below w.heap.size w w' := by
  obtain ⟨i0, hi0, hz0, hz1, hz2⟩ := info_parts info_string
  go_enter Tryd.func23, Tryd.ntmps23
  go_wp2_with (at_make; refine wpList_make_full _ rfl _ _ 61 rfl w.heap.size 9 i0 (.string ⟨#[]⟩) 1 Tryd.underlying61 hi0 hz0 hz1 _ _ _ _ zs.length rfl rfl (by omega) (by omega) ?b2 ?b3 (Nat.le_refl _) ?_)
  case b2 => rw [hz2]; omega
  case b3 => unfold maxLen; omega
  intro w0 hown0 hgrow0
  rw [madeStrs] at hown0
  have B0 : Below w.heap.size w w0 := (Below.refl _ _).grown hgrow0 (Nat.le_refl _) (fun k h => by cases h)
  have hs0 : w.heap.size + 1 ≤ w0.heap.size := (World.ownsRow.lt hown0 w.heap.size rfl).2
  clear hgrow0
  go_wp2
  go_loopw [11] (fun i wr => ∃ k : Nat, k ≤ zs.length ∧ i = .int .i64 k ∧ wr.ownsRow w.heap.size 9 1 (.slice (some ⟨w.heap.size, 0, none⟩) zs.length zs.length) zs.length ((txtTo zs k).map Value.string) ∧ Below w.heap.size w wr ∧ w.heap.size + 1 ≤ wr.heap.size) (fun i _ => zs.length - (intOf i).toNat)
  case atStart => exact ⟨0, Nat.zero_le _, rfl, by rw [txtTo_zero]; exact hown0, B0, hs0⟩
  case round =>
    clear hown0 B0 hs0
    obtain ⟨k, hk, rfl, hown, BR, hs⟩ := hrel
    by_cases hlt : k < zs.length
    · obtain ⟨b, off, rfl, hb2, hc⟩ := hi.below BR (by omega)
      have hck := hc k hlt
      have HS := hide (txtTo_set hlt)
      obtain ⟨x, hx⟩ : ∃ x, x = zs.getD k 0 := ⟨_, rfl⟩
      have hx2 : 0 ≤ x ∧ x < 100 := by rw [hx, getD_lt hlt]; exact hb _ (List.getElem_mem hlt)
      rw [← hx] at hck HS
      obtain ⟨S, hS⟩ : ∃ S, numS x.toNat = S := ⟨_, rfl⟩
      rw [hS] at HS
      have HSS := hide hS
      have hl := txtTo_len zs k hk
      have hst := hown.cellAt k (by omega)
      rw [List.getElem?_map, List.getElem?_eq_getElem (by rw [hl]; exact hlt)] at hst
      simp only [Option.map_some] at hst
      obtain ⟨u, hu⟩ : ∃ u, u = (txtTo zs k)[k]'(by rw [hl]; exact hlt) := ⟨_, rfl⟩
      rw [← hu] at hst
      have hfz := hown.frozenAt k
      have HOW := hide hown
      clear hc hx hS hu hown hl
      go_wp2_with (go_at_call 22; refine (itoa_was _ S _ hx2 HSS.out).mono ?_; rintro e w' ⟨rfl, rfl⟩)
      go_roundw
      case rel => exact ⟨k + 1, by omega, by go_num, by rw [← HS.out, List.map_set]; exact (HOW.out.stored k _).1, BR.setCell (p := ⟨w.heap.size, k, none⟩) (Nat.le_refl _) _, by simp; omega⟩
      case measure => simp only [intOf]; omega
    · obtain rfl : k = zs.length := by omega
      rw [txtTo_all] at hown
      have HT := hide (lst_all zs)
      have HSZ : Hid (∀ s ∈ txtL zs, s.size ≤ 2) := fun s hs => by
        unfold txtL at hs
        obtain ⟨x, hx, rfl⟩ := List.mem_map.1 hs
        exact numS_le (hb x hx)
      have HOW := hide hown
      clear hown
      go_wp2_with fail
      refine (join_was _ _ _ (txtL zs) _ _ HOW.out (txtL_len zs) hn (Nat.le_refl _) HSZ.out HT.out).mono ?_
      rintro e w2 ⟨rfl, hb2⟩
      go_wp2
      go_ret
      exact ⟨rfl, bnext BR hb2⟩
set_option maxHeartbeats 2000000 in
theorem implText_any (n : Int) (a : Option Addr) (cap : Nat) (zs : List Int) (w : World) (hi : Ints w a zs) (hn : zs.length ≤ 1048576) :
    Calls Tryd.prog 8 #[.agg #[.int .i64 n, .slice a zs.length cap]] w fun e w' => e = .returned (.string (spcS n zs)) ∧ Below w.heap.size w w' := by
  by_cases hv : vsB n zs = true
  · have hV := valid_of hv
    have hr := valid_range hV
    have hl := valid_len hV
    have HV := hide hv
    have HS : Hid (spcS n zs = numS n.toNat ++ ⟨#[58]⟩ ++ lstS zs zs.length) := if_pos hv
    have hn4 : 0 ≤ n ∧ n < 100 := by have := hV.1; omega
    obtain ⟨N, hN⟩ : ∃ N, numS n.toNat = N := ⟨_, rfl⟩
    have HN := hide hN
    rw [hN] at HS
    obtain ⟨T, hT⟩ : ∃ T, lstS zs zs.length = T := ⟨_, rfl⟩
    rw [hT] at HS
    have HT := hide hT
    have HR : Hid (∀ x ∈ zs, (0 : Int) ≤ x ∧ x < 100) := fun x hx => ⟨(hr x hx).1, by have := (hr x hx).2; omega⟩
    have bx := Box.new w n a zs.length cap 25
    have ia := hi.below (bel1 w (.cells #[.int .i64 n, .slice a zs.length cap] 25))
    clear hv hV hr hN hT hi
    go_enter Tryd.func8, Tryd.ntmps8
    go_wp2_with fail
    refine (implValidSpace_any _ _ _ _ _ ia hn).mono ?_
    rintro e w1 ⟨rfl, B1⟩
    rw [HV.out]
    obtain ⟨_, c0, c1⟩ := bx.below B1
    have hNs := numS_le hn4
    rw [HN.out] at hNs
    have hTs := lstS_size HR.out zs.length (Nat.le_refl _)
    rw [HT.out] at hTs
    have f1 := fits_str (m := 1000) (a := N) (b := ⟨#[58]⟩) (by omega) (by decide) (by decide)
    have f2 := fits_str (m := 1000) (a := N ++ ⟨#[58]⟩) (b := T) (by rw [ByteArray.size_append]; show _ + 1 ≤ _; omega) (by omega) (by decide)
    have iw := ia.below (bdrew' B1)
    go_wp2
    go_region_with (first
      | (go_at_call 22; refine (itoa_was _ N _ hn4 HN.out).mono ?_; rintro e w' ⟨rfl, rfl⟩)
      | (go_at_call 23; refine (numbersText_any _ _ _ _ iw HR.out (by omega)).mono ?_; rintro e w2 ⟨rfl, hb2⟩; rw [HT.out]))
    all_goals
      go_wp2
      go_ret
      rw [HS.out]
      exact ⟨rfl, (bel1 w _).trans ((B1.trans ((bdrew hb2).mono B1.size)).mono (by simp))⟩
  · have hv : vsB n zs = false := by simpa using hv
    have HV := hide hv
    have HS : Hid (spcS n zs = ⟨#[]⟩) := if_neg (by rw [hv]; decide)
    clear hv
    go_enter Tryd.func8, Tryd.ntmps8
    go_wp2_with fail
    refine (implValidSpace_any _ _ _ _ _ (hi.below (bel1 w _)) hn).mono ?_
    rintro e w1 ⟨rfl, B1⟩
    rw [HV.out]
    go_wp2
    go_ret
    rw [HS.out]
    exact ⟨rfl, (bel1 w _).trans (B1.mono (by simp))⟩
end Go.Proofs.YtcnoipghepjodaaDoor
