/- impl.CrossSpaces. -/
import Derived.Test.YtbnnblfgpdfmpaaSp
import Derived.Test.YtbnnblfgpdfmpaaCross
import Derived.Deep.RegionWith
import Derived.Handy
import Derived.Laws.ResultCell
import Derived.Outline
namespace Go.Proofs.Ytbnnblfgpdfmpaa
open Go.RowKit Go.Joins

theorem valid_in {n : Int} {zs : List Int} (h : Valid n zs) : ∀ x ∈ zs, 0 ≤ x ∧ x ≤ pw n - 1 := by
  intro x hx
  obtain ⟨i, hi, rfl⟩ := List.getElem_of_mem hx
  rw [← getD_lt hi]
  exact (h.2.2 i hi).1

/-- two spaces in variables, and a third for the answer -/
def CV (w0 : World) (na : Int) (a : Option Addr) (xs : List Int) (ca : Nat) (nb : Int) (b : Option Addr) (ys : List Int) (cb : Nat) (wx : World) : Prop :=
  Box wx w0.heap.size na a xs.length ca ∧ Box wx (w0.heap.size + 1) nb b ys.length cb ∧ Ints wx a xs ∧ Ints wx b ys ∧ wx.heap[w0.heap.size + 1 + 1]? = some (.cells #[.int .i64 0, .slice none 0 0] 26 (0, 0)) ∧ Below w0.heap.size w0 wx
theorem CV.below {w0 wx wy : World} {na nb : Int} {a b : Option Addr} {xs ys : List Int} {ca cb : Nat} (h : CV w0 na a xs ca nb b ys cb wx) (hb : Below wx.heap.size wx wy) : CV w0 na a xs ca nb b ys cb wy :=
  ⟨h.1.below hb, h.2.1.below hb, h.2.2.1.below hb, h.2.2.2.1.below hb, (hb.block _ (lt_of_block h.2.2.2.2.1)).trans h.2.2.2.2.1, bnext h.2.2.2.2.2 hb⟩
theorem CV.new (w : World) (na nb : Int) (a b : Option Addr) (xs ys : List Int) (ca cb : Nat) (hx : Ints w a xs) (hy : Ints w b ys) :
    CV w na a xs ca nb b ys cb (((w.alloc (.cells #[.int .i64 na, .slice a xs.length ca] 26)).alloc (.cells #[.int .i64 nb, .slice b ys.length cb] 26)).alloc (.cells #[.int .i64 0, .slice none 0 0] 26)) := by
  have b1 := Box.new w na a xs.length ca 26
  have b2 := Box.new (w.alloc (.cells #[.int .i64 na, .slice a xs.length ca] 26)) nb b ys.length cb 26
  have b3 := heap_alloc_new ((w.alloc (.cells #[.int .i64 na, .slice a xs.length ca] 26)).alloc (.cells #[.int .i64 nb, .slice b ys.length cb] 26)) (.cells #[.int .i64 0, .slice none 0 0] 26)
  simp only [World.size_alloc] at b2 b3
  exact ⟨(b1.below (bel1 _ _)).below (bel1 _ _), b2.below (bel1 _ _), hx.below (bel3 _ _ _ _), hy.below (bel3 _ _ _ _), b3, bel3 _ _ _ _⟩
theorem givesC_no {na nb : Int} {xs ys : List Int} {w w' : World} (h : ¬ CrossOk na xs nb ys) (hb : Below w.heap.size w w') :
    GivesX (crsN na xs nb ys) (crsL na xs nb ys) (crsB na xs nb ys) w (.returned (.tuple #[.agg #[.int .i64 0, .slice none 0 0], .bool false])) w' := by
  have e1 : crsN na xs nb ys = 0 := if_neg h
  have e2 : crsL na xs nb ys = [] := if_neg h
  have e3 : crsB na xs nb ys = false := by simpa [crsB] using h
  rw [e1, e2, e3]
  exact ⟨_, rfl, World.ownsRow_nil _ _ _ _, hb⟩
theorem CV.set {w0 wx : World} {na nb : Int} {a b : Option Addr} {xs ys : List Int} {ca cb : Nat} (h : CV w0 na a xs ca nb b ys cb wx) (u v : Value) :
    Below w0.heap.size w0 ((wx.setCell ⟨w0.heap.size + 1 + 1, 0, none⟩ u).setCell ⟨w0.heap.size + 1 + 1, 1, none⟩ v) :=
  (h.2.2.2.2.2.setCell (p := ⟨w0.heap.size + 1 + 1, 0, none⟩) (by show w0.heap.size ≤ w0.heap.size + 1 + 1; omega) u).setCell (p := ⟨w0.heap.size + 1 + 1, 1, none⟩) (by show w0.heap.size ≤ w0.heap.size + 1 + 1; omega) v
theorem wrap_shift (a y : Int) (h0 : 0 ≤ pw a * y) (h : pw a * y ≤ 16) : wrap64 (y * 2 ^ a.toNat) = pw a * y := by
  have e : y * 2 ^ a.toNat = pw a * y := by
    unfold pw
    rw [Int.mul_comm, Int.natCast_pow]
    rfl
  rw [e]
  exact IntWalk.wrap64_in _ (by omega)

set_option maxHeartbeats 4000000 in
set_option maxRecDepth 100000 in
theorem implCross_any (na nb : Int) (a b : Option Addr) (ca cb : Nat) (xs ys : List Int) (w : World) (hx : Ints w a xs) (hy : Ints w b ys) (hn : xs.length ≤ 1048576) (hm : ys.length ≤ 1048576) :
    Calls Try.prog 34 #[.agg #[.int .i64 na, .slice a xs.length ca], .agg #[.int .i64 nb, .slice b ys.length cb]] w (GivesX (crsN na xs nb ys) (crsL na xs nb ys) (crsB na xs nb ys) w) := by
  obtain ⟨i0, hi0, hz0, hz1, hz2⟩ := info_parts info_int
  have S0 := CV.new w na nb a b xs ys ca cb hx hy
  clear hx hy
  by_cases hv : vsB na xs = false
  · have HN : Hid (¬ CrossOk na xs nb ys) := fun h => by rw [vsB_true h.1] at hv; cases hv
    go_enter Try.func34, Try.ntmps34
    go_wp2_with fail
    refine (implValidSpace_any _ _ _ _ _ S0.2.2.1 hn).mono ?_
    rintro e w1 ⟨rfl, hb⟩
    have S1 := S0.below hb
    have hblk := S1.2.2.2.2.1
    have f0 := unfrozen_of_block hblk 0
    have f1 := unfrozen_of_block hblk 1
    have g0 := cell_of_block hblk 0
    have g1 := cell_of_block hblk 1
    go_wp2
    refine bodyPost_ret (ret_cross rfl _ _ _ _ _ rfl (block_setCell (i := 1) (block_setCell (i := 0) hblk _) _)) rfl ?_
    exact givesC_no HN.out (S1.set _ _)
  · have hv : vsB na xs = true := by simpa using hv
    have hV := hide (valid_of hv)
    by_cases hu : vsB nb ys = false
    · have HN : Hid (¬ CrossOk na xs nb ys) := fun h => by rw [vsB_true h.2.1] at hu; cases hu
      go_enter Try.func34, Try.ntmps34
      go_wp2_with fail
      refine (implValidSpace_any _ _ _ _ _ S0.2.2.1 hn).mono ?_
      rintro e w1 ⟨rfl, hb⟩
      have S1 := S0.below hb
      have ⟨⟨_, c0, c1⟩, ⟨_, d0, d1⟩, _⟩ := S1
      go_wp2_with fail
      refine (implValidSpace_any _ _ _ _ _ S1.2.2.2.1 hm).mono ?_
      rintro e w2 ⟨rfl, hb⟩
      have S2 := S1.below hb
      have hblk := S2.2.2.2.2.1
      have f0 := unfrozen_of_block hblk 0
      have f1 := unfrozen_of_block hblk 1
      have g0 := cell_of_block hblk 0
      have g1 := cell_of_block hblk 1
      go_wp2
      refine bodyPost_ret (ret_cross rfl _ _ _ _ _ rfl (block_setCell (i := 1) (block_setCell (i := 0) hblk _) _)) rfl ?_
      exact givesC_no HN.out (S2.set _ _)
    · have hu : vsB nb ys = true := by simpa using hu
      have hU := hide (valid_of hu)
      have h14 := hV.out.1
      have k14 := hU.out.1
      by_cases h4 : 4 < na + nb
      · have HN : Hid (¬ CrossOk na xs nb ys) := fun h => by have := h.2.2; omega
        go_enter Try.func34, Try.ntmps34
        go_wp2_with fail
        refine (implValidSpace_any _ _ _ _ _ S0.2.2.1 hn).mono ?_
        rintro e w1 ⟨rfl, hb⟩
        have S1 := S0.below hb
        have ⟨⟨_, c0, c1⟩, ⟨_, d0, d1⟩, _⟩ := S1
        go_wp2_with fail
        refine (implValidSpace_any _ _ _ _ _ S1.2.2.2.1 hm).mono ?_
        rintro e w2 ⟨rfl, hb⟩
        have S2 := S1.below hb
        have ⟨⟨_, x0, x1⟩, ⟨_, y0, y1⟩, _⟩ := S2
        have hblk := S2.2.2.2.2.1
        have f0 := unfrozen_of_block hblk 0
        have f1 := unfrozen_of_block hblk 1
        have g0 := cell_of_block hblk 0
        have g1 := cell_of_block hblk 1
        go_wp2
        refine bodyPost_ret (ret_cross rfl _ _ _ _ _ rfl (block_setCell (i := 1) (block_setCell (i := 0) hblk _) _)) rfl ?_
        exact givesC_no HN.out (S2.set _ _)
      · have HK : Hid (CrossOk na xs nb ys) := ⟨hV.out, hU.out, by omega⟩
        have HX := hide (valid_in hV.out)
        have HY := hide (valid_in hU.out)
        have lx := valid_len hV.out
        have ly := valid_len hU.out
        go_enter Try.func34, Try.ntmps34
        go_wp2_with fail
        refine (implValidSpace_any _ _ _ _ _ S0.2.2.1 hn).mono ?_
        rintro e w1 ⟨rfl, hb⟩
        have S1 := S0.below hb
        have ⟨⟨_, c0, c1⟩, ⟨_, d0, d1⟩, _⟩ := S1
        go_wp2_with fail
        refine (implValidSpace_any _ _ _ _ _ S1.2.2.2.1 hm).mono ?_
        rintro e w2 ⟨rfl, hb2⟩
        have S2 := S1.below hb2
        clear S0 S1 hb hb2 c0 c1 d0 d1
        have ⟨⟨_, x0, x1⟩, ⟨_, y0, y1⟩, _⟩ := S2
        go_wp2_with fail
        go_loopw [6, 31] (fun v i wr => ∃ k : Nat, k ≤ ys.length ∧ i = .int .i64 k ∧ Owns wr w2.heap.size v (crossL (pw na) xs (ys.take k)) ∧ Below w2.heap.size w2 wr) (fun _ i _ => ys.length - (intOf i).toNat)
        case atStart => exact ⟨0, Nat.zero_le _, rfl, World.ownsRow_nil _ _ _ _, Below.refl _ _⟩
        case round =>
          clear x0 x1 y0 y1
          obtain ⟨k, hk, rfl, hown, BR⟩ := hrel
          have SR := S2.below BR
          have ⟨⟨_, x0, x1⟩, ⟨_, y0, y1⟩, _, iy, _⟩ := SR
          by_cases hlt : k < ys.length
          · obtain ⟨yb, yo, rfl, hybl, hyc⟩ := iy (by omega)
            have hyk := hyc k hlt
            rw [getD_lt hlt] at hyk
            have hct := hide (cross_take (pw na) xs ys k hlt)
            have rY := hide (HY.out _ (mem_of_at hlt))
            have hms := hide (mul_small (a := na) (b := nb) (y := ys[k]) (by omega) (by omega) (by omega) rY.out)
            have pa := pw_pos na
            have hsh := wrap_shift na ys[k] hms.out.1 (by have := hms.out.2; omega)
            have hcl : (crossL (pw na) xs (ys.take k)).length ≤ 256 := cross_small lx (by rw [List.length_take]; omega)
            clear hyc iy
            go_wp2_with fail
            go_loopw [6, 38] (fun v i wq => ∃ j : Nat, j ≤ xs.length ∧ i = .int .i64 j ∧ Owns wq w2.heap.size v (crossL (pw na) xs (ys.take k) ++ rowL (pw na) (xs.take j) ys[k]) ∧ Below w2.heap.size w2 wq) (fun _ i _ => xs.length - (intOf i).toNat)
            case atStart => exact ⟨0, Nat.zero_le _, rfl, by rw [show rowL (pw na) (xs.take 0) ys[k] = [] from rfl, List.append_nil]; exact hown, BR⟩
            case round =>
              clear x0 x1 y0 y1 hyk hown BR SR
              obtain ⟨j, hj, rfl, hown, BR⟩ := hrel
              have SR := S2.below BR
              have ⟨⟨_, x0, x1⟩, ⟨_, y0, y1⟩, ix, _⟩ := SR
              by_cases hjt : j < xs.length
              · obtain ⟨xb, xo, rfl, hxbl, hxc⟩ := ix (by omega)
                have hxk := hxc j hjt
                rw [getD_lt hjt] at hxk
                have hrt := hide (row_take (pw na) xs ys[k] j hjt)
                have hor := or_add (a := na) (x := xs[j]) (y := ys[k]) (HX.out _ (mem_of_at hjt)) rY.out.1 hms.out.2
                have hll : (crossL (pw na) xs (ys.take k) ++ rowL (pw na) (xs.take j) ys[k]).length ≤ 512 := by
                  rw [List.length_append, row_len, List.length_take]; omega
                have hsz := BR.size
                obtain ⟨zz, hzz⟩ : ∃ zz : List Int, zz = crossL (pw na) xs (ys.take k) ++ rowL (pw na) (xs.take j) ys[k] := ⟨_, rfl⟩
                rw [← hzz] at hown hll
                have HZ := hide hzz
                clear hxc ix hzz
                go_wp2_with ((at_builtin; refine wpList_append_own _ rfl _ _ 22 rfl w2.heap.size 3 i0 (.int .i64 0) 1 8 Try.underlying22 hi0 hz0 hz1 hz2 rfl (by decide) _ _ _ rfl (hown.alloc _) ⟨wr.heap.size, 0, none⟩ 1 1 [.int .i64 (xs[j] + pw na * ys[k])] rfl rfl ?c1 ?c2 ?c3 ?c4 ?c5 ?_))
                case c1 => exact cell_one_new _ _ _
                case c2 => intro u hu; simp at hu; subst hu; rfl
                case c3 => unfold maxLen; omega
                case c4 => omega
                case c5 => simp; omega
                intro v' w5 hown' hgrow _
                have hpush := hide (Owns.push hown')
                have hbel : Below w2.heap.size w2 w5 := (BR.alloc hsz _).grown hgrow (by simp; omega) (fun j hj => own_ge hown j hj)
                clear hown' hgrow hown
                go_wp2
                go_roundw
                case rel => exact ⟨j + 1, by omega, by go_num, by rw [hrt.out, ← List.append_assoc, ← HZ.out]; exact hpush.out, hbel⟩
                case measure => simp only [intOf]; omega
              · obtain rfl : j = xs.length := by omega
                rw [List.take_length] at hown
                go_wp2_with fail
                go_roundw
                case rel => exact ⟨k + 1, by omega, by go_num, by rw [hct.out]; exact hown, BR⟩
                case measure => simp only [intOf]; omega
          · obtain rfl : k = ys.length := by omega
            rw [List.take_length] at hown
            have hblk := SR.2.2.2.2.1
            have f0 := unfrozen_of_block hblk 0
            have f1 := unfrozen_of_block hblk 1
            have g0 := cell_of_block hblk 0
            have g1 := cell_of_block hblk 1
            have hle := S2.2.2.2.2.2.size
            obtain ⟨av, cv, rfl, iv, hg⟩ := hown.form
            go_wp2_with fail
            refine bodyPost_ret (ret_cross rfl _ _ _ _ _ rfl (block_setCell (i := 1) (block_setCell (i := 0) hblk _) _)) rfl ?_
            have e1 : crsN na xs nb ys = na + nb := if_pos HK.out
            have e2 : crsL na xs nb ys = crossL (pw na) xs ys := if_pos HK.out
            have e3 : crsB na xs nb ys = true := by simpa [crsB] using HK.out
            rw [e1, e2, e3]
            refine ⟨_, rfl, ?_, SR.set _ _⟩
            exact ((hown.setBelow (p := ⟨w.heap.size + 1 + 1, 0, none⟩) (Nat.lt_of_lt_of_le (lt_of_block S2.2.2.2.2.1) (Nat.le_refl _)) _).setBelow (p := ⟨w.heap.size + 1 + 1, 1, none⟩) (Nat.lt_of_lt_of_le (lt_of_block S2.2.2.2.2.1) (Nat.le_refl _)) _).le hle
end Go.Proofs.Ytbnnblfgpdfmpaa
