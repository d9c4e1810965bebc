/- Contracts of the laws' own helpers: sizes, copies, equality, marks. -/
import Derived.Test.YtbmodiobgkmngaaBase
import Derived.OwnWalk
import Derived.Outline
import Derived.Deep.AppendLies
import Derived.Laws.OwnMore
namespace Go.Proofs.Ytbmodiobgkmngaa
open Go.RowKit Go.Joins

theorem info_int : (Try.prog.info? 3).map (fun i => (i.zero, i.size, i.bytes)) = some (some (.int .i64 0), 1, 8) := by kernel_rfl

/-- What is left of a purse behind so many values; -1 if they do not fit. -/
def left (l : Int) (n : Nat) : Int := if l < n then -1 else l - n

theorem szIntS_any (a : Option Addr) (n cap : Nat) (l : Int) (w : World) (hn : n ≤ maxLen) (h0 : 0 ≤ l) (h1 : l ≤ 1048576) :
    Calls Try.prog 43 #[.slice a n cap, .int .i64 l] w fun e w' => e = .returned (.int .i64 (left l n)) ∧ w = w' := by
  unfold maxLen at hn
  by_cases h : l < n
  · go_enter Try.func43, Try.ntmps43
    go_wp2
    go_ret
    exact ⟨ret_int (by unfold left; rw [if_pos h]), rfl⟩
  · go_enter Try.func43, Try.ntmps43
    go_wp2
    go_ret
    exact ⟨ret_int (by unfold left; rw [if_neg (by omega)]), rfl⟩

theorem getD_lt {zs : List Int} {k : Nat} (h : k < zs.length) : zs.getD k 0 = zs[k] := by simp [List.getD_eq_getElem?_getD, h]

theorem ints_ext {xs ys : List Int} (hl : xs.length = ys.length) (h : ∀ j, j < xs.length → xs.getD j 0 = ys.getD j 0) : xs = ys := by
  refine List.ext_getElem hl fun i h1 h2 => ?_
  have := h i h1
  rwa [getD_lt h1, getD_lt h2] at this

theorem set_take {ys zs : List Int} {k : Nat} (hk : k < zs.length) (hl : ys.length = zs.length) (h : ys.take k = zs.take k) : (ys.set k (zs.getD k 0)).take (k + 1) = zs.take (k + 1) := by
  rw [List.take_add_one, List.take_add_one, List.take_set_of_le (Nat.le_refl _), h, List.getElem?_set_self (by omega), List.getElem?_eq_getElem hk]
  simp [List.getD_eq_getElem?_getD, hk]

theorem madeInts (n : Nat) : (madeCells #[Value.int .i64 0] n).toList = (List.replicate n (0 : Int)).map (Value.int .i64) := by
  rw [toList_madeCells_one, List.map_replicate]

set_option maxHeartbeats 400000 in
theorem toIntS_any (a : Option Addr) (cap : Nat) (zs : List Int) (w : World) (hi : Ints w a zs) (hn : zs.length ≤ 1048576) :
    Calls Try.prog 44 #[.slice a zs.length cap] w fun e w' => e = .returned (.slice (some ⟨w.heap.size, 0, none⟩) zs.length zs.length) ∧
      Owns w' w.heap.size (.slice (some ⟨w.heap.size, 0, none⟩) zs.length zs.length) zs ∧ Below w.heap.size w w' := by
  obtain ⟨i0, hi0, hz0, hz1, hz2⟩ := info_parts info_int
  go_enter Try.func44, Try.ntmps44
  go_wp2_with (at_make; refine wpList_make_full _ rfl _ _ 23 rfl w.heap.size 3 i0 (.int .i64 0) 1 Try.underlying23 hi0 hz0 hz1 _ _ _ _ zs.length rfl rfl (by omega) (by omega) ?b2 ?b3 (Nat.le_refl _) ?_)
  case b2 => rw [hz2]; omega
  case b3 => unfold maxLen; omega
  intro w0 hown0 hgrow0
  rw [madeInts] at hown0
  have hb0 : Below w.heap.size w w0 := (Below.refl _ _).grown hgrow0 (Nat.le_refl _) (fun k h => by cases h)
  clear hgrow0
  go_wp2
  go_loopw [4] (fun i wr => ∃ (k : Nat) (ys : List Int), k ≤ zs.length ∧ i = .int .i64 k ∧ ys.length = zs.length ∧ ys.take k = zs.take k ∧
      wr.ownsRow w.heap.size 3 1 (.slice (some ⟨w.heap.size, 0, none⟩) zs.length zs.length) zs.length (ys.map (Value.int .i64)) ∧ Below w.heap.size w wr)
    (fun i _ => zs.length - (intOf i).toNat)
  case atStart => exact ⟨0, _, Nat.zero_le _, rfl, by simp, by simp, hown0, hb0⟩
  case round =>
    clear hown0 hb0
    obtain ⟨k, ys, hk, rfl, hl, ht, hown, hb⟩ := hrel
    have HL := hide hl
    have HT := hide ht
    clear hl ht
    by_cases hlt : k < zs.length
    · obtain ⟨b, off, rfl, hbl, hc⟩ := hi (by omega)
      have hck := (hb.cell (p := ⟨b, off + k, none⟩) hbl).trans (hc k hlt)
      have hst := hown.cellAt k (by omega)
      rw [List.getElem?_map, List.getElem?_eq_getElem (by rw [HL.out]; exact hlt)] at hst
      have hfz := hown.frozenAt k
      clear hc
      go_wp2
      go_roundw
      case rel => exact ⟨k + 1, ys.set k (zs.getD k 0), by omega, by go_num, by rw [List.length_set]; exact HL.out, set_take hlt HL.out HT.out, by rw [List.map_set, getD_lt hlt]; exact (hown.stored k _).1, hb.setCell (Nat.le_refl _) _⟩
      case measure => simp [intOf]; omega
    · obtain rfl : k = zs.length := by omega
      go_wp2
      go_ret
      have hys : ys = zs := by
        have := HT.out
        rw [List.take_of_length_le (by rw [HL.out]; exact Nat.le_refl _), List.take_of_length_le (Nat.le_refl _)] at this
        exact this
      exact ⟨rfl, by rw [← hys]; unfold Owns; rw [HL.out]; exact hown, hb⟩

set_option maxHeartbeats 400000 in
theorem toSpace_any (n : Int) (a : Option Addr) (cap : Nat) (zs : List Int) (w : World) (hi : Ints w a zs) (hn : zs.length ≤ 1048576) :
    Calls Try.prog 16 #[.agg #[.int .i64 n, .slice a zs.length cap]] w fun e w' => ∃ g, e = .returned (.agg #[.int .i64 n, .slice (some ⟨g, 0, none⟩) zs.length zs.length]) ∧
      Owns w' w.heap.size (.slice (some ⟨g, 0, none⟩) zs.length zs.length) zs ∧ Below w.heap.size w w' := by
  go_enter Try.func16, Try.ntmps16
  go_wp2_with fail
  refine (toIntS_any _ _ _ _ (hi.below (bel3 w _ _ _)) hn).mono ?_
  rintro e w1 ⟨rfl, hown, hb⟩
  obtain ⟨hc, hf⟩ := bcell hb
  have hz : w.heap.size + 1 + 1 + 1 ≤ w1.heap.size := by have := hb.size; simpa using this
  simp only [World.size_alloc] at hown hb
  go_wp2
  refine bodyPost_ret (v := .agg #[.int .i64 n, .slice (some ⟨w.heap.size + 1 + 1 + 1, 0, none⟩) zs.length zs.length]) (by simp [results, Try.results16, go_sem, hc]) rfl ⟨_, rfl, ?_, ?_⟩
  · refine Owns.le (base := w.heap.size + 1 + 1 + 1) ?_ (by omega)
    refine (((hown.setBelow ?_ _).setBelow ?_ _).setBelow ?_ _) <;> simp
  · exact ((((bel3 w _ _ _).trans (hb.mono (by omega))).setCell (by simp; omega) _).setCell (by simp) _).setCell (by simp) _

set_option maxHeartbeats 400000 in
theorem eqIntS_any (a b : Option Addr) (ca cb : Nat) (xs ys : List Int) (w : World) (hx : Ints w a xs) (hy : Ints w b ys) (hn : xs.length ≤ 1048576) :
    Calls Try.prog 46 #[.slice a xs.length ca, .slice b ys.length cb] w fun e w' => e = .returned (.bool (decide (xs = ys))) ∧ Below w.heap.size w w' := by
  by_cases hl : xs.length = ys.length
  · have hne : ((xs.length : Int) != (ys.length : Int)) = false := by simp [hl]
    have HL := hide hl
    clear hl
    go_enter Try.func46, Try.ntmps46
    go_wp2
    go_loopw [5] (fun i wr => ∃ k : Nat, k ≤ xs.length ∧ i = .int .i64 k ∧ (∀ j, j < k → xs.getD j 0 = ys.getD j 0) ∧ Below w.heap.size w wr) (fun i _ => xs.length - (intOf i).toNat)
    case atStart => exact ⟨0, Nat.zero_le _, rfl, fun j hj => by omega, Below.refl _ _⟩
    case round =>
      obtain ⟨k, hk, rfl, hall, hb⟩ := hrel
      have HA := hide hall
      clear hall
      by_cases hlt : k < xs.length
      · obtain ⟨b1, o1, rfl, hb1, hc1⟩ := hx (by omega)
        obtain ⟨b2, o2, rfl, hb2, hc2⟩ := hy (by rw [← HL.out]; omega)
        have hlt2 : k < ys.length := by rw [← HL.out]; exact hlt
        have h1 := (hb.cell (p := ⟨b1, o1 + k, none⟩) hb1).trans (hc1 k hlt)
        have h2 := (hb.cell (p := ⟨b2, o2 + k, none⟩) hb2).trans (hc2 k hlt2)
        clear hc1 hc2
        rw [getD_lt hlt] at h1
        rw [getD_lt hlt2] at h2
        by_cases he : xs[k] = ys[k]
        · have hE : (xs[k] != ys[k]) = false := by simpa using he
          have HE := hide he
          clear he
          go_wp2
          go_quiet (fail)
          go_wp2
          go_roundw
          case rel => exact ⟨k + 1, by omega, by go_num, fun j hj => by
            rcases Nat.lt_or_ge j k with h | h
            · exact HA.out j h
            · obtain rfl : j = k := by omega
              rw [getD_lt hlt, getD_lt hlt2]
              exact HE.out, hb.trans ((belN _ _).mono hb.size)⟩
          case measure => simp only [intOf]; omega
        · have hE : (xs[k] != ys[k]) = true := by simpa using he
          go_wp2
          go_quiet (fail)
          go_wp2
          go_ret
          exact ⟨ret_bool (by simp; intro e; subst e; exact he rfl), hb.trans ((belN _ _).mono hb.size)⟩
      · obtain rfl : k = xs.length := by omega
        go_wp2
        go_ret
        refine ⟨ret_bool ?_, hb⟩
        have : xs = ys := ints_ext HL.out HA.out
        simp [this]
  · have hne : ((xs.length : Int) != (ys.length : Int)) = true := by simp; omega
    go_enter Try.func46, Try.ntmps46
    go_wp2
    go_ret
    exact ⟨ret_bool (by simp; intro e; exact hl (by rw [e])), Below.refl _ _⟩

set_option maxHeartbeats 400000 in
theorem eqSpace_any (n m : Int) (a b : Option Addr) (ca cb : Nat) (xs ys : List Int) (w : World) (hx : Ints w a xs) (hy : Ints w b ys) (hn : xs.length ≤ 1048576) :
    Calls Try.prog 18 #[.agg #[.int .i64 n, .slice a xs.length ca], .agg #[.int .i64 m, .slice b ys.length cb]] w fun e w' => e = .returned (.bool (decide (n = m ∧ xs = ys))) ∧ Below w.heap.size w w' := by
  by_cases he : n = m
  · subst he
    have hne : (n != n) = false := by simp
    by_cases hxy : xs = ys
    · have HXY := hide hxy
      clear hxy
      go_enter Try.func18, Try.ntmps18
      go_wp2_with fail
      refine (eqIntS_any _ _ _ _ _ _ _ (hx.below (bel2 w _ _)) (hy.below (bel2 w _ _)) hn).mono ?_
      rintro e w1 ⟨rfl, hb⟩
      obtain ⟨hc, hf⟩ := bcell hb
      have hd : decide (xs = ys) = true := by simpa using HXY.out
      go_wp2
      go_ret
      exact ⟨ret_bool (by simpa using HXY.out), (bel2 w _ _).trans (hb.mono (by simp; omega))⟩
    · have hd : decide (xs = ys) = false := by simpa using hxy
      have HXY := hide hxy
      clear hxy
      go_enter Try.func18, Try.ntmps18
      go_wp2_with fail
      refine (eqIntS_any _ _ _ _ _ _ _ (hx.below (bel2 w _ _)) (hy.below (bel2 w _ _)) hn).mono ?_
      rintro e w1 ⟨rfl, hb⟩
      obtain ⟨hc, hf⟩ := bcell hb
      go_wp2
      go_ret
      exact ⟨ret_bool (by simp; exact HXY.out), (bel2 w _ _).trans (hb.mono (by simp; omega))⟩
  · have hne : (n != m) = true := by simpa using he
    have HE := hide he
    clear he
    go_enter Try.func18, Try.ntmps18
    go_wp2
    go_ret
    exact ⟨ret_bool (by simp; intro e; exact absurd e HE.out), bel2 w _ _⟩

theorem szSpace_any (m : Int) (a : Option Addr) (n cap : Nat) (l : Int) (w : World) (hn : n ≤ maxLen) (h0 : 0 ≤ l) (h1 : l ≤ 1048576) :
    Calls Try.prog 15 #[.agg #[.int .i64 m, .slice a n cap], .int .i64 l] w fun e w' => e = .returned (.int .i64 (left l n)) ∧ Below w.heap.size w w' := by
  by_cases h : l < n
  · have hlt : left l n < 0 := by unfold left; rw [if_pos h]; omega
    have hm : left l n = -1 := by unfold left; rw [if_pos h]
    have HM := hide hm
    clear hm
    go_enter Try.func15, Try.ntmps15
    go_wp2_with fail
    refine (szIntS_any _ _ _ _ _ hn h0 h1).mono ?_
    rintro e w1 ⟨rfl, rfl⟩
    go_wp2
    go_ret
    exact ⟨ret_int HM.out.symm, bel1 w _⟩
  · have hlt : 0 ≤ left l n := by unfold left; rw [if_neg h]; omega
    go_enter Try.func15, Try.ntmps15
    go_wp2_with fail
    refine (szIntS_any _ _ _ _ _ hn h0 h1).mono ?_
    rintro e w1 ⟨rfl, rfl⟩
    go_wp2
    go_ret
    exact ⟨rfl, bel1 w _⟩

end Go.Proofs.Ytbmodiobgkmngaa
