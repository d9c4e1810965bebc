/- Texts of this seat one behind the other: StrH, OpS. Conditions: none. -/
import Derived.Test.YtgebplpbnaeckaaGreatDoorMg38
import Derived.SliceStrings
import Derived.WalkKit
import Derived.OpenShut

/- StrH: The law's helpers on slices of strings. -/
namespace Go.Proofs.YtgebplpbnaeckaaGreatDoor
open Go.RowKit Go.Joins

set_option maxHeartbeats 2000000 in
set_option maxRecDepth 100000 in
theorem szStringS_any (a : Option Addr) (cap : Nat) (ls : List ByteArray) (w : World) (hi : Strs w a ls) (hn : ls.length ≤ maxLen) (hs : ∀ k (hk : k < ls.length), (ls[k]).size ≤ maxLen) :
    Calls Tryz.prog 9 #[.slice a ls.length cap, .int .i64 1048576] w fun e w' => (∃ r : Int, e = .returned (.int .i64 r) ∧ -1 ≤ r ∧ (0 ≤ r → ls.length ≤ 1048576 ∧ ∀ k (hk : k < ls.length), (ls[k]).size ≤ 1048576)) ∧ w' = w := by
  have hm : maxLen = 9223372036854775807 := rfl
  rw [hm] at hn
  have HS := hide hs
  clear hs
  by_cases h0 : 1048576 < ls.length
  · have h1 : (1048576 : Int) - (ls.length : Int) < 0 := by omega
    go_enter Tryz.func9, Tryz.ntmps9
    go_wp2
    go_ret
    exact ⟨⟨-1, rfl, by omega, fun h => absurd h (by omega)⟩, rfl⟩
  · have h1 : ¬ (1048576 : Int) - (ls.length : Int) < 0 := by omega
    go_enter Tryz.func9, Tryz.ntmps9
    go_wp2
    go_loop [1, 5] (fun l i => ∃ (k : Nat) (x : Int), k ≤ ls.length ∧ i = .int .i64 k ∧ l = .int .i64 x ∧ 0 ≤ x ∧ x ≤ 1048576 ∧ ∀ j (hj : j < k) (hjl : j < ls.length), (ls[j]).size ≤ 1048576) (fun _ i => ls.length - (intOf i).toNat)
    case atStart => exact ⟨0, 1048576 - ls.length, Nat.zero_le _, rfl, by go_num, by omega, by omega, fun j hj => absurd hj (by omega)⟩
    case round =>
      obtain ⟨k, x, hk, rfl, rfl, hx0, hx1, hall⟩ := hrel
      have HALL := hide hall
      clear hall
      by_cases hlt : k < ls.length
      · obtain ⟨b, off, rfl, hlb, hc⟩ := hi (by omega)
        have hck := hc k hlt
        have hsz := HS.out k hlt
        rw [hm] at hsz
        obtain ⟨p, hp⟩ : ∃ p, p = ls[k] := ⟨_, rfl⟩
        rw [← hp] at hck hsz
        have HP := hide hp
        clear hc hp
        by_cases hneg : x - (p.size : Int) < 0
        · go_wp2
          go_ret
          exact ⟨⟨-1, rfl, by omega, fun h => absurd h (by omega)⟩, rfl⟩
        · have HK : Hid (∀ j (hj : j < k + 1) (hjl : j < ls.length), (ls[j]).size ≤ 1048576) := fun j hj hjl => by
            rcases Nat.lt_or_ge j k with h | h
            · exact HALL.out j h hjl
            · have e : j = k := by omega
              subst e
              rw [← HP.out]; omega
          clear HALL
          go_wp2
          refine ⟨⟨k + 1, x - p.size, by omega, by go_num, by go_num, by omega, by omega, HK.out⟩, by simp only [intOf]; omega⟩
      · obtain rfl : k = ls.length := by omega
        go_wp2
        go_ret
        exact ⟨⟨x, rfl, by omega, fun _ => ⟨by omega, fun j hj => HALL.out j hj hj⟩⟩, rfl⟩
theorem strsTo_len (ls : List ByteArray) (k : Nat) (h : k ≤ ls.length) : (ls.take k ++ List.replicate (ls.length - k) (⟨#[]⟩ : ByteArray)).length = ls.length := by
  rw [List.length_append, List.length_take, List.length_replicate]; omega
theorem strsTo_set {ls : List ByteArray} {k : Nat} (h : k < ls.length) : (ls.take k ++ List.replicate (ls.length - k) (⟨#[]⟩ : ByteArray)).set k ls[k] = ls.take (k + 1) ++ List.replicate (ls.length - (k + 1)) ⟨#[]⟩ := by
  rw [List.set_append_right _ _ (by rw [List.length_take]; omega), List.take_succ_eq_append_getElem h, List.append_assoc]
  congr 1
  rw [List.length_take, Nat.min_eq_left (by omega), Nat.sub_self, show ls.length - k = (ls.length - (k + 1)) + 1 from by omega, List.replicate_succ]
  rfl
set_option maxHeartbeats 2000000 in
set_option maxRecDepth 100000 in
theorem toStringS_any (a : Option Addr) (cap : Nat) (ls : List ByteArray) (w : World) (hi : Strs w a ls) (hn : ls.length ≤ 1048576) :
    Calls Tryz.prog 10 #[.slice a ls.length cap] w fun e w' => (∃ a' cap', e = .returned (.slice a' ls.length cap') ∧ Strs w' a' ls) ∧ Below w.heap.size w w' := by
  obtain ⟨i0, hi0, hz0, hz1, hz2⟩ := info_parts info_string
  go_enter Tryz.func10, Tryz.ntmps10
  go_wp2_with (at_make; refine wpList_make_full _ rfl _ _ 23 rfl w.heap.size 9 i0 (.string ⟨#[]⟩) 1 Tryz.underlying23 hi0 hz0 hz1 _ _ _ _ ls.length rfl rfl (by omega) (by omega) ?b2 ?b3 (Nat.le_refl _) ?_)
  case b2 => rw [hz2]; omega
  case b3 => unfold maxLen; omega
  intro w0 hown0 hgrow0
  rw [madeStrs] at hown0
  have B0 : Below w.heap.size w w0 := (Below.refl _ _).grown hgrow0 (Nat.le_refl _) (fun k h => by cases h)
  have hs0 : w.heap.size + 1 ≤ w0.heap.size := (World.ownsRow.lt hown0 w.heap.size rfl).2
  clear hgrow0
  go_wp2
  go_loopw [4] (fun i wr => ∃ k : Nat, k ≤ ls.length ∧ i = .int .i64 k ∧ wr.ownsRow w.heap.size 9 1 (.slice (some ⟨w.heap.size, 0, none⟩) ls.length ls.length) ls.length ((ls.take k ++ List.replicate (ls.length - k) (⟨#[]⟩ : ByteArray)).map Value.string) ∧ Below w.heap.size w wr ∧ w.heap.size + 1 ≤ wr.heap.size) (fun i _ => ls.length - (intOf i).toNat)
  case atStart => exact ⟨0, Nat.zero_le _, rfl, by simpa using hown0, B0, hs0⟩
  case round =>
    clear hown0 B0 hs0
    obtain ⟨k, hk, rfl, hown, BR, hs⟩ := hrel
    by_cases hlt : k < ls.length
    · obtain ⟨b, off, rfl, hb2, hc⟩ := hi.below BR (by omega)
      have hck := hc k hlt
      have HS := hide (strsTo_set hlt)
      obtain ⟨p, hp⟩ : ∃ p, p = ls[k] := ⟨_, rfl⟩
      rw [← hp] at hck HS
      have hl := strsTo_len ls k hk
      have hst := hown.cellAt k (by omega)
      rw [List.getElem?_map, List.getElem?_eq_getElem (by rw [hl]; exact hlt)] at hst
      simp only [Option.map_some] at hst
      obtain ⟨u, hu⟩ : ∃ u, u = (ls.take k ++ List.replicate (ls.length - k) (⟨#[]⟩ : ByteArray))[k]'(by rw [hl]; exact hlt) := ⟨_, rfl⟩
      rw [← hu] at hst
      have hfz := hown.frozenAt k
      have HOW := hide hown
      clear hc hp hu hown hl
      go_wp2
      go_roundw
      case rel => exact ⟨k + 1, by omega, by go_num, by rw [← HS.out, List.map_set]; exact (HOW.out.stored k _).1, BR.setCell (p := ⟨w.heap.size, k, none⟩) (Nat.le_refl _) _, by simp; omega⟩
      case measure => simp only [intOf]; omega
    · obtain rfl : k = ls.length := by omega
      have hfin : ls.take ls.length ++ List.replicate (ls.length - ls.length) (⟨#[]⟩ : ByteArray) = ls := by simp
      rw [hfin] at hown
      have HST : Hid (Strs wr (some ⟨w.heap.size, 0, none⟩) ls) := fun h0 => ⟨w.heap.size, 0, rfl, by omega, fun j hj => by
        have := hown.cellAt j (by omega)
        rw [List.getElem?_map, List.getElem?_eq_getElem hj] at this
        simpa using this⟩
      clear hown
      go_wp2
      go_ret
      exact ⟨⟨_, _, rfl, HST.out⟩, BR⟩
set_option maxHeartbeats 2000000 in
set_option maxRecDepth 100000 in
theorem eqStringS_any (a b : Option Addr) (ca cb : Nat) (ls : List ByteArray) (w : World) (hi : Strs w a ls) (hj : Strs w b ls) (hn : ls.length ≤ 1048576) :
    Calls Tryz.prog 11 #[.slice a ls.length ca, .slice b ls.length cb] w fun e w' => e = .returned (.bool true) ∧ Below w.heap.size w w' := by
  go_enter Tryz.func11, Tryz.ntmps11
  go_wp2
  go_loopw [5] (fun i wr => ∃ k : Nat, k ≤ ls.length ∧ i = .int .i64 k ∧ Below w.heap.size w wr) (fun i _ => ls.length - (intOf i).toNat)
  case atStart => exact ⟨0, Nat.zero_le _, rfl, Below.refl _ _⟩
  case round =>
    obtain ⟨k, hk, rfl, BR⟩ := hrel
    by_cases hlt : k < ls.length
    · obtain ⟨g, off, rfl, hlb, hc⟩ := hi.below BR (by omega)
      obtain ⟨g2, off2, rfl, hlb2, hc2⟩ := hj.below BR (by omega)
      have hck := hc k hlt
      have hck2 := hc2 k hlt
      obtain ⟨p, hp⟩ : ∃ p, p = ls[k] := ⟨_, rfl⟩
      rw [← hp] at hck hck2
      clear hc hc2 hp
      go_wp2_with fail
      go_quiet (fail)
      go_wp2
      go_roundw
      case rel => exact ⟨k + 1, by omega, by go_num, bdrewN BR⟩
      case measure => simp only [intOf]; omega
    · obtain rfl : k = ls.length := by omega
      go_wp2
      go_ret
      exact ⟨rfl, BR⟩
theorem specDesk_was (a : Option Addr) (cap : Nat) (ls : List ByteArray) (R : ByteArray) (w : World) (hi : Strs w a ls) (hs : ∀ k (hk : k < ls.length), (ls[k]).size ≤ 1048576) (hR : (if ls.length ≤ 20 then dskS ls ls.length else ⟨#[]⟩) = R) :
    Calls Tryz.prog 7 #[.slice a ls.length cap] w fun e w' => e = .returned (.string R) ∧ Below w.heap.size w w' := by
  by_cases h : ls.length ≤ 20
  · rw [if_pos h] at hR
    exact specRunDesk_any a cap ls R w hi h hs hR
  · rw [if_neg h] at hR
    subst hR
    exact specRunDesk_many a cap _ w (by omega)
theorem implDesk_was (a : Option Addr) (cap : Nat) (ls : List ByteArray) (R : ByteArray) (w : World) (hd : DV w) (hi : Strs w a ls) (hs : ∀ k (hk : k < ls.length), (ls[k]).size ≤ 1048576) (hR : (if ls.length ≤ 20 then dskS ls ls.length else ⟨#[]⟩) = R) :
    Calls Tryz.prog 6 #[.slice a ls.length cap] w fun e w' => e = .returned (.string R) ∧ Below w.heap.size w w' := by
  by_cases h : ls.length ≤ 20
  · rw [if_pos h] at hR
    exact implRunDesk_any a cap ls R w hd hi h hs hR
  · rw [if_neg h] at hR
    subst hR
    exact implRunDesk_many a cap _ w (by omega)
set_option maxHeartbeats 2000000 in
set_option maxRecDepth 100000 in
theorem walk_FnExactRunDesk (a : Option Addr) (ls : List ByteArray) (cap : Nat) (w : World) (hi : Strs w a ls) (hn : ls.length ≤ maxLen) (hs : ∀ k (hk : k < ls.length), (ls[k]).size ≤ maxLen) (hd : DV w) :
    Calls Tryz.prog 4 #[.slice a ls.length cap] w fun e w' => e = .returned (.bool true) ∧ Below w.heap.size w w' := by
  obtain ⟨R, hR⟩ : ∃ R, (if ls.length ≤ 20 then dskS ls ls.length else (⟨#[]⟩ : ByteArray)) = R := ⟨_, rfl⟩
  have HR := hide hR
  clear hR
  go_enter Tryz.func4, Tryz.ntmps4
  go_wp2_with fail
  refine (szStringS_any a cap ls _ hi hn hs).mono ?_
  rintro e w1 ⟨⟨r, rfl, hr1, hr⟩, rfl⟩
  by_cases hneg : r < 0
  · go_wp2
    go_ret
    exact ⟨rfl, Below.refl _ _⟩
  · obtain ⟨hl, hsz⟩ := hr (by omega)
    clear hr hn hs
    have HSZ := hide hsz
    clear hsz
    go_wp2_with fail
    refine (toStringS_any _ _ ls _ hi hl).mono ?_
    rintro e w2 ⟨⟨a2, c2, rfl, i2⟩, B2⟩
    go_wp2_with fail
    refine (specDesk_was _ _ ls R _ i2 HSZ.out HR.out).mono ?_
    rintro e w3 ⟨rfl, hb3⟩
    have B3 := bnext B2 hb3
    clear i2
    go_wp2_with fail
    refine (toStringS_any _ _ ls _ (hi.below B3) hl).mono ?_
    rintro e w4 ⟨⟨a4, c4, rfl, i4⟩, hb4⟩
    have B4 := bnext B3 hb4
    go_wp2_with fail
    refine (implDesk_was _ _ ls R _ (hd.below B4) i4 HSZ.out HR.out).mono ?_
    rintro e w5 ⟨rfl, hb5⟩
    have B5 := bnext B4 hb5
    have i5 := i4.below hb5
    go_wp2_with fail
    refine (toStringS_any _ _ ls _ (hi.below B5) hl).mono ?_
    rintro e w6 ⟨⟨a6, c6, rfl, i6⟩, hb6⟩
    go_wp2_with fail
    refine (eqStringS_any _ _ _ _ ls _ (i5.below hb6) i6 hl).mono ?_
    rintro e w7 ⟨rfl, hb7⟩
    go_wp2
    go_ret
    exact ⟨rfl, bnext (bnext B5 hb6) hb7⟩
end Go.Proofs.YtgebplpbnaeckaaGreatDoor

/- OpS: A slice of strings that came in, opened. -/
namespace Go.Proofs.YtgebplpbnaeckaaGreatDoor
open Go.RowKit Go.Joins Go.ChangeShapes Go.WideShapes

theorem open_strs_list {H : Type} {enc : TypeId × Value → H} {P : Program} {w : World} {base : Nat} {spare : Nat → Bool} {held : Bool} {r : Reach} {b0 : Nat} {t e : TypeId} {v : Value} {d : DataW H} {p : List MemPlace} (ht : P.underlying t = some (.slice e)) (he : P.underlying e = some .string) (hc : P.cellsOf e = 1)
    (hv : Value.okWide P w r b0 t v) (h : DataW.Trod enc P w base spare held t v d p) : ∃ a ls cap, v = .slice a ls.length cap ∧ Strs w a ls ∧ ls.length ≤ maxLen ∧ ∀ k (hk : k < ls.length), (ls[k]).size ≤ maxLen := by
  obtain ⟨a0, len0, cap0, rfl⟩ := okWide_slice ht hv
  obtain ⟨fuel, hf⟩ := h
  rcases open_strings ht he hc hf with ⟨hcs, _⟩ | ⟨x, len, cap, ss, hcs, _, hl, hm, hlen, _, hcell, hsz⟩
  · simp [Value.cells] at hcs
    obtain ⟨rfl, rfl, rfl⟩ := hcs
    exact ⟨none, [], 0, rfl, fun h => absurd h (by simp), by unfold maxLen; simp, fun k hk => absurd hk (by simp)⟩
  · simp [Value.cells] at hcs
    obtain ⟨rfl, rfl, rfl⟩ := hcs
    have hsl : len0 ≤ ss.length := by rw [hlen]; split <;> omega
    have hll : (ss.take len0).length = len0 := by rw [List.length_take]; omega
    refine ⟨some x, ss.take len0, cap0, by rw [hll], fun h0 => ?_, by rw [hll]; omega, fun k hk => ?_⟩
    · rw [hll] at h0
      have hc0 := hcell 0 (by omega)
      obtain ⟨b, off, spot⟩ := x
      have hspot : spot = none := by simpa [Addr.add] using World.cell?_spot hc0
      subst hspot
      have hb : b < w.heap.size := World.block_lt_of_cell? w ⟨b, off, none⟩ (by simpa [Addr.add] using hc0)
      refine ⟨b, off, rfl, hb, fun k hk => ?_⟩
      rw [hll] at hk
      have hck := hcell k (by omega)
      have e1 : (⟨b, off, none⟩ : Addr).add k = ⟨b, off + k, none⟩ := by
        unfold Addr.add
        by_cases h : k = 0 <;> simp [h]
      rw [e1] at hck
      rw [hck, List.getElem_take]
      simp [List.getD_eq_getElem?_getD, show k < ss.length by omega]
    · rw [List.getElem_take]
      exact hsz _ (List.getElem_mem _)
end Go.Proofs.YtgebplpbnaeckaaGreatDoor
