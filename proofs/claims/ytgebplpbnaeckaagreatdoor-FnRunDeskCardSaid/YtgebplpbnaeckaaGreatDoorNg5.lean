/- Texts of this seat one behind the other: DskP, PDsk. Conditions: none. -/
import Derived.Test.YtgebplpbnaeckaaGreatDoorMg25
import Derived.Test.YtgebplpbnaeckaaGreatDoorNg4

/- DskP: The desk's text: its beginnings, its newlines. -/
namespace Go.Proofs.YtgebplpbnaeckaaGreatDoor
open Go.RowKit Go.Joins

theorem dskS_take (ls : List ByteArray) {n : Nat} : ∀ k, k ≤ n → dskS (ls.take n) k = dskS ls k
  | 0, _ => rfl
  | k + 1, h => by
    have e : (ls.take n).getD k ⟨#[]⟩ = ls.getD k ⟨#[]⟩ := by
      rw [List.getD_eq_getElem?_getD, List.getD_eq_getElem?_getD, List.getElem?_take, if_pos (by omega)]
    unfold dskS
    rw [dskS_take ls k (by omega), e]
theorem dskS_early (ls : List ByteArray) (k : Nat) : ∀ d, ∃ r, dskS ls (k + d) = dskS ls k ++ r
  | 0 => ⟨⟨#[]⟩, ByteArray.ext (by simp [ByteArray.data_append])⟩
  | d + 1 => by
    obtain ⟨r, hr⟩ := dskS_early ls k d
    refine ⟨r ++ ansL (ls.getD (k + d) ⟨#[]⟩).data.toList ++ ⟨#[10]⟩, ?_⟩
    show dskS ls (k + d) ++ ansL (ls.getD (k + d) ⟨#[]⟩).data.toList ++ ⟨#[10]⟩ = _
    rw [hr]
    exact ByteArray.ext (by simp [ByteArray.data_append, Array.append_assoc])
theorem extract_left (a r : ByteArray) : (a ++ r).extract 0 a.size = a := by
  rw [ByteArray.extract_append]
  simp
theorem dskS_head (ls : List ByteArray) {k n : Nat} (h : k ≤ n) : (dskS ls k).size ≤ (dskS ls n).size ∧ (dskS ls n).extract 0 (dskS ls k).size = dskS ls k := by
  obtain ⟨r, hr⟩ := dskS_early ls k (n - k)
  rw [show k + (n - k) = n from by omega] at hr
  rw [hr]
  exact ⟨by rw [ByteArray.size_append]; omega, extract_left _ _⟩
/-- no newline in it -/
def no10 (b : ByteArray) : Prop := b.data.toList.count 10 = 0
instance (b : ByteArray) : Decidable (no10 b) := by unfold no10; infer_instance
theorem no10_app {a b : ByteArray} (ha : no10 a) (hb : no10 b) : no10 (a ++ b) := by
  unfold no10 at *
  rw [ByteArray.data_append, Array.toList_append, List.count_append, ha, hb]
theorem no10_num : ∀ n : Fin 100, no10 (numS n.val) := by decide +kernel
theorem no10_lst {L : List Int} (hb : ∀ x ∈ L, 0 ≤ x ∧ x < 100) : ∀ k, k ≤ L.length → no10 (lstS L k)
  | 0, _ => rfl
  | k + 1, h => by
    have hx : 0 ≤ L.getD k 0 ∧ L.getD k 0 < 100 := by
      rw [List.getD_eq_getElem?_getD, List.getElem?_eq_getElem (show k < L.length from h)]
      exact hb _ (List.getElem_mem _)
    have hn : no10 (numS (L.getD k 0).toNat) := no10_num ⟨(L.getD k 0).toNat, by omega⟩
    have h0 := no10_lst hb k (by omega)
    rw [lstS]
    split
    · exact no10_app h0 hn
    · exact no10_app (no10_app h0 (by decide +kernel)) hn
theorem no10_yes (b : Bool) : no10 (yesB b) := by cases b <;> decide +kernel
theorem no10_ans (l : List UInt8) : no10 (ansL l) := by
  have hw1 : no10 wrongB := by decide +kernel
  have hw2 : no10 whatB := by decide +kernel
  have hnum : ∀ K : Nat, K < 100 → no10 (numS K) := fun K h => no10_num ⟨K, h⟩
  have hlst : ∀ L : List Int, (∀ x ∈ L, 0 ≤ x ∧ x < 100) ∧ L.length ≤ 16 → no10 (lstS L L.length) := fun L h => no10_lst h.1 L.length (Nat.le_refl _)
  unfold ansL
  generalize (spl 32 l).map (fun x => (⟨x.toArray⟩ : ByteArray)) = ps
  rcases ps with _ | ⟨a, _ | ⟨t, _ | ⟨u, _ | ⟨x, r⟩⟩⟩⟩
  · exact hw2
  · exact hw2
  · by_cases ha : isS a = true
    · cases hp : parS t.data.toList with
      | none => rw [ansP_none hp ha]; exact hw1
      | some p =>
        obtain ⟨n, zs⟩ := p
        rw [ansP_some hp ha]
        have hV := par_valid hp
        rcases three a ⟨#[99, 114, 105, 116, 105, 99, 97, 108]⟩ ⟨#[109, 101, 100, 105, 97, 110]⟩ ⟨#[98, 108, 111, 99, 107, 101, 100]⟩ with rfl | rfl | rfl | ⟨h1, h2, h3⟩
        · rw [askS_crit]; exact hnum _ (by have := crit_81 n.toNat zs (by have := hV.1; omega); omega)
        · rw [askS_medn]; exact no10_yes _
        · rw [askS_blck]; exact no10_yes _
        · rw [isS_no h1 h2 h3] at ha; cases ha
    · rw [ansP_what (by simpa using ha)]; exact hw2
  · by_cases ha : isV a = true
    · cases hp : parS t.data.toList with
      | none => rw [ansP_none3 hp ha]; exact hw1
      | some p =>
        obtain ⟨n, zs⟩ := p
        have hV := par_valid hp
        cases hv : votesB zs ((spl 44 u.data.toList).map rdN) with
        | false => rw [ansP_bad3 hp hv ha]; exact hw1
        | true =>
          rw [ansP_some3 hp hv ha]
          rcases fourW a ⟨#[109, 97, 106, 111, 114, 105, 116, 121]⟩ ⟨#[109, 101, 100, 105, 97, 110, 115]⟩ ⟨#[115, 108, 97, 116, 101, 114]⟩ ⟨#[114, 97, 110, 107, 101, 100]⟩ with rfl | rfl | rfl | rfl | ⟨h1, h2, h3, h4⟩
          · rw [askV_majr]; exact hnum _ (by have := want_in ((spl 44 u.data.toList).map rdN) hV; omega)
          · rw [askV_mdns]; exact hlst _ (bestA_in hV)
          · rw [askV_slat]; exact hlst _ (bestM_in hV)
          · rw [askV_rank]; exact hnum _ (by have := rank_in hV hv; omega)
          · rw [isV_no h1 h2 h3 h4] at ha; cases ha
    · rw [ansP_what3 (by simpa using ha)]; exact hw2
  · exact hw2
theorem dskS_lines (ls : List ByteArray) : ∀ k, (dskS ls k).data.toList.count 10 = k
  | 0 => rfl
  | k + 1 => by
    have h1 := dskS_lines ls k
    have h2 : (ansL (ls.getD k ⟨#[]⟩).data.toList).data.toList.count 10 = 0 := no10_ans _
    have h3 : (⟨#[10]⟩ : ByteArray).data.toList.count 10 = 1 := by decide +kernel
    show (dskS ls k ++ ansL (ls.getD k ⟨#[]⟩).data.toList ++ ⟨#[10]⟩).data.toList.count 10 = k + 1
    rw [ByteArray.data_append, ByteArray.data_append, Array.toList_append, Array.toList_append, List.count_append, List.count_append, h1, h2, h3]
theorem dskS_some (ls : List ByteArray) {k : Nat} (h : 0 < k) : 0 < (dskS ls k).size := by
  have h1 := dskS_lines ls k
  rcases Nat.eq_zero_or_pos (dskS ls k).size with e | e
  · have : (dskS ls k).data.toList = [] := by
      apply List.eq_nil_of_length_eq_zero
      rw [Array.length_toList]; exact e
    rw [this] at h1
    simp at h1; omega
  · exact e
set_option maxHeartbeats 1000000 in
set_option maxRecDepth 100000 in
theorem newlines_any (s : ByteArray) (c : Nat) (w : World) (hs : s.size ≤ 1048576) (hc : s.data.toList.count 10 = c) :
    Calls Tryz.prog 8 #[.string s] w fun e w' => e = .returned (.int .i64 c) ∧ w = w' := by
  have HC := hide hc
  clear hc
  have hlen : s.data.toList.length = s.size := Array.length_toList
  go_enter Tryz.func8, Tryz.ntmps8
  go_wp2_with fail
  go_loop [3, 4] (fun n i => ∃ k c : Nat, k ≤ s.size ∧ c ≤ k ∧ i = .int .i64 k ∧ n = .int .i64 c ∧ Hid ((s.data.toList.take k).count 10 = c)) (fun _ i => s.size - (intOf i).toNat)
  case atStart => exact ⟨0, 0, Nat.zero_le _, Nat.le_refl _, rfl, rfl, rfl⟩
  case round =>
    obtain ⟨k, c, hk, hck, rfl, rfl, HK⟩ := hrel
    by_cases hlt : k < s.size
    · have hst : s.data.toList.take (k + 1) = s.data.toList.take k ++ [s[k]] := by
        rw [List.take_succ_eq_append_getElem (show k < s.data.toList.length by omega)]
        rfl
      by_cases h10 : s[k] = 10
      · have HN : Hid ((s.data.toList.take (k + 1)).count 10 = c + 1) := by
          unfold Hid at *
          rw [hst, List.count_append, HK, h10]; rfl
        have hcc : ((s[k].toNat : Int) == 10) = true := by rw [h10]; rfl
        clear hst h10 HK
        go_wp2
        go_round
        case rel => exact ⟨k + 1, c + 1, by omega, by omega, by go_num, by go_num, HN⟩
        case measure => simp only [intOf]; omega
      · have HN : Hid ((s.data.toList.take (k + 1)).count 10 = c) := by
          unfold Hid at *
          rw [hst, List.count_append, HK, List.count_singleton]
          simp [h10]
        have hcc : ((s[k].toNat : Int) == 10) = false := by
          rw [beq_eq_false_iff_ne]
          intro e
          exact h10 (UInt8.toNat_inj.1 (by show s[k].toNat = 10; omega))
        clear hst h10 HK
        go_wp2
        go_round
        case rel => exact ⟨k + 1, c, by omega, by omega, by go_num, rfl, HN⟩
        case measure => simp only [intOf]; omega
    · obtain rfl : k = s.size := by omega
      have e : Hid (c = (s.data.toList.take s.size).count 10) := HK.out.symm
      have e2 : c = (s.data.toList.count 10) := by rw [e.out, List.take_of_length_le (by omega)]
      have e3 : c = _ := e2.trans HC.out
      clear e e2 HK
      go_wp2
      go_ret
      exact ⟨ret_int (by omega), rfl⟩
end Go.Proofs.YtgebplpbnaeckaaGreatDoor

/- PDsk: The law of RunDesk answers true at every code; its walk. -/
namespace Go.Proofs.YtgebplpbnaeckaaGreatDoor
open Go.RowKit Go.Joins

theorem Strs.take {w : World} {a : Option Addr} {ls : List ByteArray} (h : Strs w a ls) (k : Nat) : Strs w a (ls.take k) := fun h0 => by
  rw [List.length_take] at h0
  obtain ⟨b, off, e, hlt, hc⟩ := h (by omega)
  refine ⟨b, off, e, hlt, fun j hj => ?_⟩
  rw [List.length_take] at hj
  rw [List.getElem_take]
  exact hc j (by omega)
theorem implDesk_take (a : Option Addr) (k cap : Nat) (ls : List ByteArray) (R : ByteArray) (w : World) (hd : DV w) (hi : Strs w a ls) (hn : ls.length ≤ 20) (hk : k ≤ ls.length) (hs : ∀ k (hk : k < ls.length), (ls[k]).size ≤ 1048576) (hR : dskS ls k = R) :
    Calls Tryz.prog 6 #[.slice a k cap] w fun e w' => e = .returned (.string R) ∧ Below w.heap.size w w' := by
  have hl : (ls.take k).length = k := by rw [List.length_take]; omega
  have h := implRunDesk_any a cap (ls.take k) R w hd (hi.take k) (by omega) (fun j hj => by
    rw [List.getElem_take]
    exact hs j (by rw [hl] at hj; omega)) (by rw [hl, dskS_take ls k (Nat.le_refl _)]; exact hR)
  rw [hl] at h
  exact h
theorem specDesk_len (a : Option Addr) (cap : Nat) (ls : List ByteArray) (R : ByteArray) (w : World) (hi : Strs w a ls) (hn : ls.length ≤ 20) (hs : ∀ k (hk : k < ls.length), (ls[k]).size ≤ 1048576) (hR : dskS ls ls.length = R) :
    Calls Tryz.prog 7 #[.slice a ls.length cap] w fun e w' => e = .returned (.string R) ∧ Below w.heap.size w w' := specRunDesk_any a cap ls R w hi hn hs hR
set_option maxHeartbeats 4000000 in
set_option maxRecDepth 100000 in
theorem walk_FnRunDesk (a : Option Addr) (zs : List Nat) (cap : Nat) (w : World) (hi : Byts w a zs) (hl : zs.length ≤ maxLen) (hc : zs.length ≤ cap) (hd : DV w) :
    Calls Tryz.prog 3 #[.slice a zs.length cap] w fun e w' => e = .returned (.bool true) ∧ Below w.heap.size w w' := by
  by_cases h : 1048576 < zs.length
  · unfold maxLen at hl
    go_enter Tryz.func3, Tryz.ntmps3
    go_wp2
    go_ret
    exact ⟨rfl, Below.refl _ _⟩
  · have hl' : zs.length ≤ 1048576 := by omega
    clear h hl
    go_enter Tryz.func3, Tryz.ntmps3
    go_wp2_with fail
    refine (drawRunDesk_any _ _ _ _ hi hl' hc).mono ?_
    rintro e w1 ⟨a1, c1, ls, rfl, HS, h6, hcap, hsz, B1⟩
    have HSZ : Hid (∀ k (hk : k < ls.length), (ls[k]).size ≤ 1048576) := fun k hk => Nat.le_trans (hsz k hk) (by omega)
    have hd1 := hd.below B1
    clear hsz hi hd
    obtain ⟨R, hR⟩ : ∃ R, dskS ls ls.length = R := ⟨_, rfl⟩
    have hRs : R.size ≤ 1000 := hR ▸ Nat.le_trans (dskS_size ls ls.length) (by omega)
    have HR := hide hR
    have HNL : Hid (R.data.toList.count 10 = ls.length) := hR ▸ dskS_lines ls ls.length
    have HHD : Hid (∀ k, k ≤ ls.length → (dskS ls k).size ≤ R.size ∧ R.extract 0 (dskS ls k).size = dskS ls k) := fun k hk => hR ▸ dskS_head ls hk
    have HPOS : Hid (0 < ls.length → 0 < R.size) := fun h => hR ▸ dskS_some ls h
    clear hR
    go_wp2_with fail
    refine (implRunDesk_any _ _ ls R _ hd1 HS (by omega) HSZ.out HR.out).mono ?_
    rintro e w2 ⟨rfl, hb2⟩
    have B2 := bnext B1 hb2
    have hd2 := hd1.below hb2
    have S2 := HS.below hb2
    clear hb2 hd1 B1 HS
    go_wp2_with fail
    refine (specDesk_len _ _ ls R _ S2 (by omega) HSZ.out HR.out).mono ?_
    rintro e w3 ⟨rfl, hb3⟩
    have B3 := bnext B2 hb3
    have hd3 := hd2.below hb3
    have S3 := S2.below hb3
    clear hb3 hd2 B2 S2
    by_cases h0 : ls.length = 0
    · have e0 : ls = [] := List.length_eq_zero_iff.1 h0
      subst e0
      have eR : R = ⟨#[]⟩ := HR.out.symm
      subst eR
      go_wp2_with fail
      refine (specDesk_len _ _ [] ⟨#[]⟩ _ S3 (by simp) HSZ.out HR.out).mono ?_
      rintro e w4 ⟨rfl, hb4⟩
      go_wp2
      go_ret
      exact ⟨rfl, bnext B3 hb4⟩
    · have hp := HPOS.out (by omega)
      have hRn : ¬ R = ⟨([] : List UInt8).toArray⟩ := fun e => by rw [e] at hp; exact absurd hp (by decide)
      have hR0 := tl_ne hRn
      have hRE : R.toList.isEmpty = false := by
        cases h : R.toList with
        | nil => rw [h] at hR0; exact absurd hR0 (by decide)
        | cons => rfl
      clear hRn hR0
      go_wp2_with fail
      go_loopw [5] (fun i wr => ∃ k : Nat, k ≤ ls.length + 1 ∧ i = .int .i64 k ∧ Below w.heap.size w wr ∧ DV wr ∧ Strs wr a1 ls) (fun i _ => ls.length + 1 - (intOf i).toNat)
      case atStart => exact ⟨0, Nat.zero_le _, rfl, B3, hd3, S3⟩
      case round =>
        clear B3 hd3 S3
        obtain ⟨k, hk, rfl, BR, hdr, SR⟩ := hrel
        by_cases hlt : k ≤ ls.length
        · obtain ⟨b, off, rfl, hlb, hcc⟩ := SR (by omega)
          clear hcc
          obtain ⟨he1, he2⟩ := HHD.out k hlt
          obtain ⟨E, hE⟩ : ∃ E, dskS ls k = E := ⟨_, rfl⟩
          rw [hE] at he1 he2
          have HE := hide hE
          clear hE
          go_wp2_with fail
          refine (implDesk_take _ k _ ls E _ hdr SR (by omega) hlt HSZ.out HE.out).mono ?_
          rintro e w4 ⟨rfl, hb4⟩
          have B4 := bnext BR hb4
          have hd4 := hdr.below hb4
          have S4 := SR.below hb4
          clear hb4 BR hdr SR
          go_wp2
          go_roundw
          case rel => exact ⟨k + 1, by omega, by go_num, B4, hd4, S4⟩
          case measure => simp only [intOf]; omega
        · obtain rfl : k = ls.length + 1 := by omega
          go_wp2_with fail
          refine (newlines_any R ls.length _ (by omega) HNL.out).mono ?_
          rintro e w4 ⟨rfl, rfl⟩
          go_wp2
          go_ret
          exact ⟨rfl, BR⟩
end Go.Proofs.YtgebplpbnaeckaaGreatDoor
