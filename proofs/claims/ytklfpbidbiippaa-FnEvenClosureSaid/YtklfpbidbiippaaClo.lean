/- Least closed spaces: the plain list; impl.closureOf, MedianClosure, EvenClosure. -/
import Derived.Test.YtklfpbidbiippaaSp
import Derived.Test.YtklfpbidbiippaaJoinW
import Derived.Test.YtklfpbidbiippaaJoinP
import Derived.Handy
import Derived.Outline
namespace Go.Proofs.Ytklfpbidbiippaa
open Go.RowKit Go.Joins

/-- what three make is added, k times at most -/
def cloK (f : Nat → Nat → Nat → Nat) : Nat → List Nat → List Nat
  | 0, l => joined f l
  | k + 1, l => if (joined f l).length = l.length then joined f l else cloK f k (joined f l)
def clo (f : Nat → Nat → Nat → Nat) (l : List Nat) : List Nat := cloK f (16 - l.length) l
theorem joined_le (f : Nat → Nat → Nat → Nat) (l : List Nat) : (joined f l).length ≤ 16 := by
  unfold joined
  exact Nat.le_trans (List.length_filter_le _ _) (by simp)
theorem joined_ge (f : Nat → Nat → Nat → Nat) (l : List Nat) (h : Asc l) (hl : ∀ x ∈ l, x < 16) : l.length ≤ (joined f l).length := by
  have := filter_length_le (fun x => l.contains x || decide (Made f l x)) (fun x => l.contains x) (fun x (hx : l.contains x = true) => show (l.contains x || decide (Made f l x)) = true by rw [hx]; rfl) (List.range 16)
  rw [asc_range_filter l 16 h hl] at this
  exact this
theorem joined_lt (f : Nat → Nat → Nat → Nat) (l : List Nat) : ∀ x ∈ joined f l, x < 16 := fun x hx => by
  unfold joined at hx
  exact List.mem_range.1 (List.mem_filter.1 hx).1
theorem cloK_stop {f : Nat → Nat → Nat → Nat} {l : List Nat} (h : (joined f l).length = l.length) : ∀ k, cloK f k l = joined f l
  | 0 => rfl
  | k + 1 => by rw [cloK, if_pos h]
theorem cloK_more (f : Nat → Nat → Nat → Nat) : ∀ (k : Nat) (l : List Nat), Asc l → (∀ x ∈ l, x < 16) → 16 - l.length ≤ k → cloK f (k + 1) l = cloK f k l
  | 0, l, ha, hl, hk => by
    have h1 := joined_le f l
    have h2 := joined_ge f l ha hl
    have h : (joined f l).length = l.length := by omega
    rw [cloK_stop h, cloK_stop h]
  | k + 1, l, ha, hl, hk => by
    by_cases h : (joined f l).length = l.length
    · rw [cloK_stop h, cloK_stop h]
    · have h2 := joined_ge f l ha hl
      rw [cloK, if_neg h, cloK_more f k (joined f l) (joined_asc f l) (joined_lt f l) (by omega)]
      rw [cloK, if_neg h]
theorem cloK_enough (f : Nat → Nat → Nat → Nat) (l : List Nat) (ha : Asc l) (hl : ∀ x ∈ l, x < 16) (d : Nat) : cloK f (16 - l.length + d) l = clo f l := by
  induction d with
  | zero => rfl
  | succ d ih => rw [← Nat.add_assoc, cloK_more f _ l ha hl (by omega), ih]
theorem clo_stop {f : Nat → Nat → Nat → Nat} {l : List Nat} (h : (joined f l).length = l.length) : clo f l = joined f l := cloK_stop h _
theorem clo_go {f : Nat → Nat → Nat → Nat} {l : List Nat} (ha : Asc l) (hl : ∀ x ∈ l, x < 16) (h : (joined f l).length ≠ l.length) : clo f l = clo f (joined f l) := by
  have h1 := joined_le f l
  have h2 := joined_ge f l ha hl
  have e1 : clo f l = cloK f (16 - l.length - 1) (joined f l) := by
    have e : 16 - l.length = (16 - l.length - 1) + 1 := by omega
    unfold clo
    rw [e, cloK, if_neg h]
    rfl
  have e2 := cloK_enough f (joined f l) (joined_asc f l) (joined_lt f l) (16 - l.length - 1 - (16 - (joined f l).length))
  rw [e1, ← e2]
  congr 1
  omega

/-- a list of judgments, as the closures hold it -/
def JL (ls : List Int) : Prop := (∀ x ∈ ls, 0 ≤ x ∧ x ≤ 15) ∧ Asc (ls.map Int.toNat) ∧ ls.length ≤ 16
theorem JL.lt {ls : List Int} (h : JL ls) : ∀ x ∈ ls.map Int.toNat, x < 16 := by
  intro x hx
  obtain ⟨y, hy, rfl⟩ := List.mem_map.1 hx
  have := h.1 y hy
  omega
theorem cast_toNat (l : List Nat) : (l.map fun (t : Nat) => (t : Int)).map Int.toNat = l := by
  rw [List.map_map]
  exact (List.map_congr_left (fun _ _ => by simp)).trans (List.map_id l)
theorem joinL_toNat (f : Nat → Nat → Nat → Nat) (zs : List Int) : (joinL f zs).map Int.toNat = joined f (zs.map Int.toNat) := cast_toNat _
theorem joinL_length (f : Nat → Nat → Nat → Nat) (zs : List Int) : (joinL f zs).length = (joined f (zs.map Int.toNat)).length := by unfold joinL; rw [List.length_map]
theorem JL.join (f : Nat → Nat → Nat → Nat) (zs : List Int) : JL (joinL f zs) := by
  refine ⟨fun x hx => ?_, by rw [joinL_toNat]; exact joined_asc _ _, by rw [joinL_length]; exact joined_le _ _⟩
  unfold joinL at hx
  obtain ⟨t, ht, rfl⟩ := List.mem_map.1 hx
  have := joined_lt f _ t ht
  omega
theorem asc_len16 {l : List Nat} (h : Asc l) (hl : ∀ x ∈ l, x < 16) : l.length ≤ 16 := by
  rw [← asc_range_filter l 16 h hl]
  exact Nat.le_trans (List.length_filter_le _ _) (by simp)
theorem asc_ofValid {n : Int} {zs : List Int} (h : Valid n zs) : ∀ i j, i < j → j < zs.length → zs.getD i 0 < zs.getD j 0 := by
  intro i j hij hj
  induction j with
  | zero => omega
  | succ j ih =>
    have hs := (h.2.2 (j + 1) hj).2 (by omega)
    rw [Nat.add_sub_cancel] at hs
    rcases Nat.lt_or_ge i j with h1 | h1
    · have := ih h1 (by omega)
      omega
    · obtain rfl : i = j := by omega
      exact hs
theorem JL.valid {n : Int} {zs : List Int} (h : Valid n zs) : JL zs := by
  have hr := valid_range h
  have ha : Asc (zs.map Int.toNat) := by
    unfold Asc
    rw [List.pairwise_iff_getElem]
    intro i j hi hj hij
    simp only [List.length_map] at hi hj
    have h1 := asc_ofValid h i j hij hj
    rw [getD_lt hi, getD_lt hj] at h1
    have h2 := hr _ (mem_of_at hi)
    simp only [List.getElem_map]
    omega
  have hl := asc_len16 ha (fun x hx => by
    obtain ⟨y, hy, rfl⟩ := List.mem_map.1 hx
    have := hr y hy
    omega)
  exact ⟨hr, ha, by simpa using hl⟩
/-- the least closed list -/
def cloT (f : Nat → Nat → Nat → Nat) (ls : List Int) : List Int := (clo f (ls.map Int.toNat)).map fun (t : Nat) => (t : Int)
theorem cloT_stop {f : Nat → Nat → Nat → Nat} {ls : List Int} (h : (joinL f ls).length = ls.length) : cloT f ls = joinL f ls := by
  unfold cloT
  rw [clo_stop (by rw [← joinL_length, h, List.length_map])]
  rfl
theorem cloT_go {f : Nat → Nat → Nat → Nat} {ls : List Int} (hJ : JL ls) (h : (joinL f ls).length ≠ ls.length) : cloT f (joinL f ls) = cloT f ls := by
  unfold cloT
  rw [joinL_toNat, ← clo_go hJ.2.1 hJ.lt (by rw [← joinL_length, List.length_map]; exact h)]
theorem joinL_more {f : Nat → Nat → Nat → Nat} {ls : List Int} (hJ : JL ls) (h : (joinL f ls).length ≠ ls.length) : ls.length < (joinL f ls).length := by
  have := joined_ge f _ hJ.2.1 hJ.lt
  rw [← joinL_length, List.length_map] at this
  omega

def cloN (n : Int) (zs : List Int) : Int := if vsB n zs = true then n else 0
def cloL (f : Nat → Nat → Nat → Nat) (n : Int) (zs : List Int) : List Int := if vsB n zs = true then cloT f zs else []
theorem cloN_yes {n : Int} {zs : List Int} (h : vsB n zs = true) : cloN n zs = n := if_pos h
theorem cloL_yes {f : Nat → Nat → Nat → Nat} {n : Int} {zs : List Int} (h : vsB n zs = true) : cloL f n zs = cloT f zs := if_pos h
theorem cloN_no {n : Int} {zs : List Int} (h : vsB n zs = false) : cloN n zs = 0 := if_neg (by rw [h]; decide)
theorem cloL_no {f : Nat → Nat → Nat → Nat} {n : Int} {zs : List Int} (h : vsB n zs = false) : cloL f n zs = [] := if_neg (by rw [h]; decide)

theorem cloK_le (f : Nat → Nat → Nat → Nat) : ∀ (k : Nat) (l : List Nat), (cloK f k l).length ≤ 16
  | 0, l => joined_le f l
  | k + 1, l => by
    rw [cloK]
    split
    · exact joined_le f l
    · exact cloK_le f k _
theorem cloL_len (f : Nat → Nat → Nat → Nat) (n : Int) (zs : List Int) : (cloL f n zs).length ≤ 1048576 := by
  unfold cloL
  split
  · unfold cloT
    rw [List.length_map]
    exact Nat.le_trans (cloK_le f _ _) (by omega)
  · simp

/-- a space in a variable, and the answer's cells -/
def RV (w0 : World) (n : Int) (a : Option Addr) (zs : List Int) (cap : Nat) (wx : World) : Prop :=
  Box wx w0.heap.size n a zs.length cap ∧ Ints wx a zs ∧ wx.heap[w0.heap.size + 1]? = some (.cells #[.int .i64 0, .slice none 0 0] 25 (0, 0)) ∧ Below w0.heap.size w0 wx
theorem RV.below {w0 wx wy : World} {n : Int} {a : Option Addr} {zs : List Int} {cap : Nat} (h : RV w0 n a zs cap wx) (hb : Below wx.heap.size wx wy) : RV w0 n a zs cap wy :=
  ⟨h.1.below hb, h.2.1.below hb, (hb.block _ (lt_of_block h.2.2.1)).trans h.2.2.1, bnext h.2.2.2 hb⟩
theorem RV.new (w : World) (n : Int) (a : Option Addr) (zs : List Int) (cap : Nat) (hi : Ints w a zs) :
    RV w n a zs cap ((w.alloc (.cells #[.int .i64 n, .slice a zs.length cap] 25)).alloc (.cells #[.int .i64 0, .slice none 0 0] 25)) := by
  have b1 := Box.new w n a zs.length cap 25
  have b2 := heap_alloc_new (w.alloc (.cells #[.int .i64 n, .slice a zs.length cap] 25)) (.cells #[.int .i64 0, .slice none 0 0] 25)
  simp only [World.size_alloc] at b2
  exact ⟨b1.below (bel1 _ _), hi.below (bel2 _ _ _), b2, bel2 _ _ _⟩
theorem RV.set {w0 wx : World} {n : Int} {a : Option Addr} {zs : List Int} {cap : Nat} (h : RV w0 n a zs cap wx) (u v : Value) :
    Below w0.heap.size w0 ((wx.setCell ⟨w0.heap.size + 1, 0, none⟩ u).setCell ⟨w0.heap.size + 1, 1, none⟩ v) :=
  (h.2.2.2.setCell (p := ⟨w0.heap.size + 1, 0, none⟩) (by show w0.heap.size ≤ w0.heap.size + 1; omega) u).setCell (p := ⟨w0.heap.size + 1, 1, none⟩) (by show w0.heap.size ≤ w0.heap.size + 1; omega) v
/-- how much is to come -/
def lack : Value → Nat
  | .slice _ n _ => 16 - n
  | _ => 0
set_option maxHeartbeats 2000000 in
theorem closureOfEven_any (n : Int) (a : Option Addr) (cap : Nat) (zs : List Int) (w : World) (hi : Ints w a zs) (hn : zs.length ≤ 1048576) (hcap : zs.length ≤ cap) :
    Calls Try.prog 85 #[.agg #[.int .i64 n, .slice a zs.length cap], .func (.func 86) #[] #[]] w (GivesS (cloN n zs) (cloL par n zs) w) := by
  have S0 := RV.new w n a zs cap hi
  clear hi
  by_cases hv : vsB n zs = false
  · have HN := hide (cloN_no hv)
    have HL := hide (cloL_no (f := par) hv)
    go_enter Try.func85, Try.ntmps85
    go_wp2_with fail
    refine (implValidSpace_any _ _ _ _ _ S0.2.1 hn).mono ?_
    rintro e w1 ⟨rfl, hb⟩
    have S1 := S0.below hb
    have hres := S1.2.2.1
    have f0 := unfrozen_of_block hres 0
    have f1 := unfrozen_of_block hres 1
    have r0 := cell_of_block hres 0
    have r1 := cell_of_block hres 1
    go_wp2
    refine bodyPost_ret (ret_space rfl _ _ _ _ _ rfl (block_setCell (i := 1) (block_setCell (i := 0) hres _) _)) rfl ?_
    rw [HN.out, HL.out]
    exact ⟨_, rfl, World.ownsRow_nil _ _ _ _, S1.set _ _⟩
  · have hv : vsB n zs = true := by simpa using hv
    have HN := hide (cloN_yes hv)
    have HL := hide (cloL_yes (f := par) hv)
    have HJ0 := hide (JL.valid (valid_of hv))
    go_enter Try.func85, Try.ntmps85
    go_wp2_with fail
    refine (implValidSpace_any _ _ _ _ _ S0.2.1 hn).mono ?_
    rintro e w1 ⟨rfl, hb⟩
    have S1 := S0.below hb
    clear S0 hb
    have ⟨⟨_, c0, c1⟩, _⟩ := S1
    go_wp2_with fail
    go_loopw [5] (fun v wr => ∃ (ls : List Int) (a' : Option Addr) (cap' : Nat), v = .slice a' ls.length cap' ∧ ls.length ≤ cap' ∧ Ints wr a' ls ∧ JL ls ∧ cloT par ls = cloT par zs ∧ RV w n a zs cap wr) (fun v _ => lack v)
    case atStart => exact ⟨zs, a, cap, rfl, hcap, S1.2.1, HJ0.out, rfl, S1⟩
    case round =>
      clear S1 c0 c1
      obtain ⟨ls, a', cap', rfl, hc', il, hJ, hT, SR⟩ := hrel
      have HJ := hide hJ
      have HT := hide hT
      have h16 := hJ.2.2
      have hjl := (JL.join par ls).2.2
      clear hJ hT
      go_wp2_with fail
      refine (joinedPar_any _ _ _ _ il (by omega) hc' HJ.out.1).mono ?_
      rintro e w2 ⟨v2, rfl, ov, hb2⟩
      have S2 := SR.below hb2
      have hcv : ∀ av cv, v2 = .slice av (joinL par ls).length cv → (joinL par ls).length ≤ cv := fun av cv e => by subst e; exact ov.cap
      obtain ⟨av, cv, rfl, iv, _⟩ := ov.form
      have hcv := hcv _ _ rfl
      have ⟨⟨_, c0, c1⟩, _⟩ := S2
      by_cases he : (joinL par ls).length = ls.length
      · have hE : (((joinL par ls).length : Int) == (ls.length : Int)) = true := by rw [beq_iff_eq]; omega
        have HE := hide he
        have hres := S2.2.2.1
        have f0 := unfrozen_of_block hres 0
        have f1 := unfrozen_of_block hres 1
        have r0 := cell_of_block hres 0
        have r1 := cell_of_block hres 1
        have hsz := SR.2.2.2.size
        have hlt := lt_of_block SR.2.2.1
        clear he
        go_wp2
        refine bodyPost_ret (ret_space rfl _ _ _ _ _ rfl (block_setCell (i := 1) (block_setCell (i := 0) hres _) _)) rfl ?_
        rw [HN.out, HL.out, ← HT.out, cloT_stop HE.out]
        exact ⟨_, rfl, (ov.set2 (by omega) _ _).le hsz, S2.set _ _⟩
      · have hE : (((joinL par ls).length : Int) == (ls.length : Int)) = false := by rw [beq_eq_false_iff_ne]; omega
        have HE := hide he
        have hmore := joinL_more HJ.out he
        clear he
        go_wp2
        go_roundw
        case rel => exact ⟨joinL par ls, av, cv, rfl, hcv, iv, JL.join _ _, (cloT_go HJ.out HE.out).trans HT.out, S2⟩
        case measure => simp only [lack]; omega

set_option maxHeartbeats 1000000 in
theorem implEvenClosure_any (n : Int) (a : Option Addr) (cap : Nat) (zs : List Int) (w : World) (hi : Ints w a zs) (hn : zs.length ≤ 1048576) (hcap : zs.length ≤ cap) :
    Calls Try.prog 20 #[.agg #[.int .i64 n, .slice a zs.length cap]] w (GivesS (cloN n zs) (cloL par n zs) w) := by
  have S0 := RV.new w n a zs cap hi
  clear hi
  go_enter Try.func20, Try.ntmps20
  go_wp2_with fail
  refine (closureOfEven_any _ _ _ _ _ S0.2.1 hn hcap).mono ?_
  rintro e w1 ⟨v, rfl, ov, hb⟩
  have S1 := S0.below hb
  obtain ⟨av, cv, rfl, _, _⟩ := ov.form
  have hres := S1.2.2.1
  have f0 := unfrozen_of_block hres 0
  have f1 := unfrozen_of_block hres 1
  have r0 := cell_of_block hres 0
  have r1 := cell_of_block hres 1
  go_wp2
  refine bodyPost_ret (ret_space rfl _ _ _ _ _ rfl (block_setCell (i := 1) (block_setCell (i := 0) hres _) _)) rfl ?_
  exact ⟨_, rfl, (ov.set2 (by simp) _ _).le (by simp; omega), S1.set _ _⟩
end Go.Proofs.Ytklfpbidbiippaa
