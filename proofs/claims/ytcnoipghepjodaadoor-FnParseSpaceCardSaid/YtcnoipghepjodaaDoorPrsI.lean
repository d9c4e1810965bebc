/- Reading texts, of the program: numbers. -/
import Derived.Test.YtcnoipghepjodaaDoorShelfb
import Derived.Test.YtcnoipghepjodaaDoorPrsN
import Derived.Lib.SmallJoins
import Derived.Lib.AtoiAllCases
namespace Go.Proofs.YtcnoipghepjodaaDoor
open Go.RowKit Go.Joins

theorem gPow : Tryd.prog.globalNamed "internal/strconv.uint64pow10" = some 1 := by kernel_rfl
theorem tab_below {w w' : World} (h : Lib.TabIs Tryd.prog w "internal/strconv.uint64pow10" .u64 Lib.pow10Tab) (hb : Below w.heap.size w w') : Lib.TabIs Tryd.prog w' "internal/strconv.uint64pow10" .u64 Lib.pow10Tab := by
  unfold Lib.TabIs World.var? at h ⊢
  rw [gPow] at h ⊢
  simp only [Option.bind_some] at h ⊢
  have hlt : 1 < w.heap.size := by
    rcases Nat.lt_or_ge 1 w.heap.size with h' | h'
    · exact h'
    · rw [Array.getElem?_eq_none h'] at h; cases h
  rw [hb.block 1 hlt]
  exact h
/-- what the program's tables hold -/
structure GV (w : World) : Prop where
  ml : ∃ m : Int, w.cell? ⟨0, 0, none⟩ = some (.int .i64 m)
  syn : ∃ ev : Value, w.cell? ⟨2, 0, none⟩ = some ev ∧ (ev = .nilIface ∨ ∃ te pe, ev = .iface te pe)
  rng : ∃ ev : Value, w.cell? ⟨3, 0, none⟩ = some ev ∧ (ev = .nilIface ∨ ∃ te pe, ev = .iface te pe)
  tab : Lib.TabIs Tryd.prog w "internal/strconv.uint64pow10" .u64 Lib.pow10Tab
theorem GV.below {w w' : World} (h : GV w) (hb : Below w.heap.size w w') : GV w' := by
  obtain ⟨⟨m, h1⟩, ⟨e2, h2, h3⟩, ⟨e4, h4, h5⟩, h6⟩ := h
  exact ⟨⟨m, (hb.cell (p := ⟨0, 0, none⟩) (World.block_lt_of_cell? w ⟨0, 0, none⟩ h1)).trans h1⟩, ⟨e2, (hb.cell (p := ⟨2, 0, none⟩) (World.block_lt_of_cell? w ⟨2, 0, none⟩ h2)).trans h2, h3⟩, ⟨e4, (hb.cell (p := ⟨3, 0, none⟩) (World.block_lt_of_cell? w ⟨3, 0, none⟩ h4)).trans h4, h5⟩, tab_below h6 hb⟩
theorem GV.drew {w : World} (h : GV w) : GV w.drew := h.below (bdrew' (Below.refl _ _))
/-- what parseNumber answers -/
def PnE (o : Option Int) (e : Ending) : Prop := (∃ v : Int, o = some v ∧ e = .returned (.tuple #[.int .i64 v, .bool true])) ∨ (o = none ∧ e = .returned (.tuple #[.int .i64 0, .bool false]))
theorem grow_below {w : World} {k : Nat} {os : Array Obj} : Below w.heap.size w (Go.Sort.grow (w.drewN k) os) := by
  refine ⟨rfl, rfl, rfl, ?_, fun j hj => ?_⟩
  · rw [Go.Sort.size_grow]; exact Nat.le_add_right _ _
  · show (w.heap ++ os)[j]? = _
    rw [Array.getElem?_append, if_pos hj]
theorem atoi_ok_was (s : ByteArray) (v : Int) (w : World) (hs : s.size ≤ 1048576) (h : Lib.atoiAll s.data.toList = .ok v) :
    Calls Tryd.prog 48 #[.string s] w fun e w' => e = .returned (.tuple #[.int .i64 v, .nilIface]) ∧ Below w.heap.size w w' := by
  refine (Tryd.strconv_Atoi_ok s (by omega) v h w).mono ?_
  rintro e w' ⟨rfl, rfl | ⟨t, rfl⟩⟩
  · exact ⟨rfl, Below.refl _ _⟩
  · exact ⟨rfl, below_bytesWorld _ _ _ _ (Nat.le_refl _)⟩
theorem atoi_bad_was (s : ByteArray) (w : World) (hs : s.size ≤ 1048576) (hg : GV w) (h : ∀ v, Lib.atoiAll s.data.toList ≠ .ok v) :
    Calls Tryd.prog 48 #[.string s] w fun e w' => (∃ (x : Int) (t : TypeId) (p : Value), e = .returned (.tuple #[.int .i64 x, .iface t p])) ∧ Below w.heap.size w w' := by
  cases hc : Lib.atoiAll s.data.toList with
  | ok v => exact absurd hc (h v)
  | «syntax» =>
    obtain ⟨ev, h1, h2⟩ := hg.syn
    refine (Tryd.strconv_Atoi_syntax s (by omega) hc ev w h1 h2).mono ?_
    rintro e w' ⟨N, rfl, _, _, hb⟩
    exact ⟨⟨_, _, _, rfl⟩, hb⟩
  | range =>
    obtain ⟨ev, h1, h2⟩ := hg.rng
    refine (Tryd.strconv_Atoi_range s (by omega) hc ev w h1 h2).mono ?_
    rintro e w' ⟨N, rfl, _, _, hb⟩
    exact ⟨⟨_, _, _, rfl⟩, hb⟩
theorem itoa_all (n : Int) (S : ByteArray) (w : World) (h : -9223372036854775808 ≤ n ∧ n ≤ 9223372036854775807) (hg : GV w) (hS : ⟨(Lib.itoa n).toArray⟩ = S) :
    Calls Tryd.prog 22 #[.int .i64 n] w fun e w' => e = .returned (.string S) ∧ Below w.heap.size w w' := by
  subst hS
  refine (Tryd.strconv_Itoa n h.1 h.2 w hg.tab).mono ?_
  rintro e w' ⟨rfl, k, os, rfl⟩
  exact ⟨rfl, grow_below⟩
set_option maxHeartbeats 1000000 in
theorem parseNumber_any (s : ByteArray) (o : Option Int) (w : World) (hs : s.size ≤ 1048576) (hg : GV w) (ho : prN s.data.toList = o) :
    Calls Tryd.prog 28 #[.string s] w fun e w' => PnE o e ∧ Below w.heap.size w w' := by
  subst ho
  by_cases hc : ∃ v, Lib.atoiAll s.data.toList = .ok v
  · obtain ⟨v, hv⟩ := hc
    have hb := Lib.atoiAll_bounds hv
    have HV := hide hv
    obtain ⟨S, hS⟩ : ∃ S : ByteArray, ⟨(Lib.itoa v).toArray⟩ = S := ⟨_, rfl⟩
    have HS := hide hS
    by_cases hq : S.toList = s.toList
    · have hi : Lib.itoa v = s.data.toList := by
        rw [ByteArray.toList_eq, ByteArray.toList_eq, ← hS] at hq
        simpa using hq
      have HO : Hid (prN s.data.toList = some v) := by unfold Hid prN; rw [hv]; simp only; rw [if_pos hi]
      have hne : (!(S.toList == s.toList)) = false := by rw [hq]; simp
      have hne2 : (S.toList == s.toList) = true := by rw [hq]; simp
      clear hi hS hv
      go_enter Tryd.func28, Tryd.ntmps28
      go_wp2_with fail
      refine (atoi_ok_was s v _ hs HV.out).mono ?_
      rintro e w1 ⟨rfl, hb1⟩
      go_wp2_with (go_at_call 22; refine (itoa_all v S _ hb (hg.below hb1) HS.out).mono ?_; rintro e w2 ⟨rfl, hb2⟩)
      go_ret2
      exact ⟨.inl ⟨v, HO.out, rfl⟩, bnext hb1 hb2⟩
    · have hi : ¬ Lib.itoa v = s.data.toList := fun e => hq (by
        rw [ByteArray.toList_eq, ByteArray.toList_eq, ← hS, ← e])
      have HO : Hid (prN s.data.toList = none) := by unfold Hid prN; rw [hv]; simp only; rw [if_neg hi]
      have hne2 : (S.toList == s.toList) = false := by rw [beq_eq_false_iff_ne]; exact hq
      have hne : (!(S.toList == s.toList)) = true := by rw [hne2]; rfl
      clear hi hS hv hq
      go_enter Tryd.func28, Tryd.ntmps28
      go_wp2_with fail
      refine (atoi_ok_was s v _ hs HV.out).mono ?_
      rintro e w1 ⟨rfl, hb1⟩
      go_wp2_with (go_at_call 22; refine (itoa_all v S _ hb (hg.below hb1) HS.out).mono ?_; rintro e w2 ⟨rfl, hb2⟩)
      go_ret2
      exact ⟨.inr ⟨HO.out, rfl⟩, bnext hb1 hb2⟩
  · have hc' : ∀ v, Lib.atoiAll s.data.toList ≠ .ok v := fun v e => hc ⟨v, e⟩
    have HO : Hid (prN s.data.toList = none) := by
      unfold Hid prN
      split
      · rename_i x hx; exact absurd hx (hc' x)
      · rfl
    have HC := hide hc'
    clear hc hc'
    go_enter Tryd.func28, Tryd.ntmps28
    go_wp2_with fail
    refine (atoi_bad_was s _ hs hg HC.out).mono ?_
    rintro e w1 ⟨⟨x, t, p, rfl⟩, hb1⟩
    go_wp2
    go_ret2
    exact ⟨.inr ⟨HO.out, rfl⟩, hb1⟩
end Go.Proofs.YtcnoipghepjodaaDoor
