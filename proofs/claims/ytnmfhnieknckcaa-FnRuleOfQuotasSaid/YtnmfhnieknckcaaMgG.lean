/- Texts of this seat one behind the other: Sup, Want, Quota, RqA, PRoq. Conditions: none. -/
import Derived.Test.YtnmfhnieknckcaaVotes
import Derived.Test.YtnmfhnieknckcaaBit
import Derived.Test.YtnmfhnieknckcaaMark
import Derived.Test.YtnmfhnieknckcaaListLaw
import Derived.Test.YtnmfhnieknckcaaMgD
import Derived.Test.YtnmfhnieknckcaaMgE
import Derived.Test.YtnmfhnieknckcaaMgC
import Derived.Deep.RegionWith
import Derived.RegionTactic
import Derived.BigRegion
import Derived.Outline
import Derived.Handy
import Derived.Deep.QuietTactic
import Derived.BigQuiet
import Derived.Deep.DeepCutAuto
import Derived.Deep.RegionHeld3

/- Sup: Supports: an answer of a judgment, how many votes answer 1; SupportOf in the model and in the program. -/
namespace Go.Proofs.Ytnmfhnieknckcaa
open Go.RowKit Go.Joins

/-- how many of the first k votes answer 1 -/
def supK (vs : List Int) (j : Nat) : Nat → Nat
  | 0 => 0
  | k + 1 => supK vs j k + bitN (vs.getD k 0).toNat j
theorem supK_le (vs : List Int) (j : Nat) : ∀ k, supK vs j k ≤ k
  | 0 => Nat.le_refl _
  | k + 1 => by have := supK_le vs j k; have := bitN_le (vs.getD k 0).toNat j; unfold supK; omega
def supN (vs : List Int) (j : Nat) : Nat := supK vs j vs.length
theorem supN_le (vs : List Int) (j : Nat) : supN vs j ≤ vs.length := supK_le _ _ _
/-- the supports of the first m issues by the first k votes -/
def supKL (m : Nat) (vs : List Int) (k : Nat) : List Int := (List.range m).map fun j => (supK vs j k : Int)
def supL (m : Nat) (vs : List Int) : List Int := supKL m vs vs.length
theorem supKL_length (m : Nat) (vs : List Int) (k : Nat) : (supKL m vs k).length = m := by simp [supKL]
theorem supL_length (m : Nat) (vs : List Int) : (supL m vs).length = m := supKL_length _ _ _
theorem supKL_getD (m : Nat) (vs : List Int) (k j : Nat) (h : j < m) : (supKL m vs k).getD j 0 = (supK vs j k : Int) := by
  simp [supKL, List.getD_eq_getElem?_getD, h]
theorem supL_succ (m : Nat) (vs : List Int) : supL (m + 1) vs = supL m vs ++ [(supN vs m : Int)] := by
  unfold supL supKL
  rw [List.range_succ, List.map_append]
  rfl

/-- what SupportOf answers -/
def supA (n : Int) (zs vs : List Int) : List Int := if vvB n zs vs = true then supL n.toNat vs else []
theorem supA_yes {n : Int} {zs vs : List Int} (h : vvB n zs vs = true) : supA n zs vs = supL n.toNat vs := if_pos h
theorem supA_no {n : Int} {zs vs : List Int} (h : vvB n zs vs = false) : supA n zs vs = [] := if_neg (by rw [h]; decide)
theorem supA_len (n : Int) (zs vs : List Int) : (supA n zs vs).length ≤ 1048576 := by
  unfold supA
  split
  · rename_i h
    have := (vv_of h).1.1
    rw [supL_length]; omega
  · simp
theorem votes_range {n : Int} {zs vs : List Int} (h : Valid n zs) (hv : VotesOk zs vs) : ∀ x ∈ vs, 0 ≤ x ∧ x ≤ 15 := fun x hx => valid_range h x (hv.mem x hx)


/-- the supports with one vote more at the first j issues -/
def supMix (m : Nat) (vs : List Int) (k j : Nat) : List Int := (List.range m).map fun t => if t < j then (supK vs t (k + 1) : Int) else (supK vs t k : Int)
theorem supMix_zero (m : Nat) (vs : List Int) (k : Nat) : supMix m vs k 0 = supKL m vs k := by
  unfold supMix supKL
  refine List.map_congr_left fun t _ => ?_
  rw [if_neg (by omega)]
theorem supMix_all (m : Nat) (vs : List Int) (k : Nat) : supMix m vs k m = supKL m vs (k + 1) := by
  unfold supMix supKL
  refine List.map_congr_left fun t ht => ?_
  rw [if_pos (by simpa using ht)]
theorem supMix_length (m : Nat) (vs : List Int) (k j : Nat) : (supMix m vs k j).length = m := by simp [supMix]
theorem supMix_at (m : Nat) (vs : List Int) (k j : Nat) (h : j < m) : (supMix m vs k j)[j]'(by rw [supMix_length]; exact h) = (supK vs j k : Int) := by
  simp [supMix]
theorem supMix_set (m : Nat) (vs : List Int) (k j : Nat) (h : j < m) : (supMix m vs k j).set j (supK vs j (k + 1) : Int) = supMix m vs k (j + 1) := by
  refine ints_ext (by simp [supMix]) fun t ht => ?_
  have ht' : t < m := by simpa [supMix] using ht
  rw [List.getD_eq_getElem?_getD, List.getD_eq_getElem?_getD]
  by_cases e : j = t
  · subst e
    rw [List.getElem?_set_self (by rw [supMix_length]; exact h)]
    simp [supMix, ht']
  · rw [List.getElem?_set_ne e]
    simp only [supMix, List.getElem?_map, List.getElem?_range ht', Option.map_some, Option.getD_some]
    by_cases h1 : t < j
    · rw [if_pos h1, if_pos (by omega)]
    · rw [if_neg h1, if_neg (by omega)]
theorem supKL_zero (m : Nat) (vs : List Int) : supKL m vs 0 = List.replicate m 0 := by
  unfold supKL
  rw [List.eq_replicate_iff]
  refine ⟨by simp, fun b hb => ?_⟩
  simp [supK] at hb
  exact hb.2.symm

theorem shr_bitU (x : Int) (j : Nat) (hx : 0 ≤ x ∧ x ≤ 15) (hj : j ≤ 4) : bits .and .i64 (x / 2 ^ j) 1 = (bitN x.toNat j : Nat) := by
  obtain ⟨y, rfl⟩ := Int.eq_ofNat_of_zero_le hx.1
  have h : ∀ y : Fin 16, ∀ j : Fin 5, bits .and .i64 (((y.val : Nat) : Int) / 2 ^ j.val) 1 = ((bitN y.val j.val : Nat) : Int) := by decide +kernel
  exact h ⟨y, by omega⟩ ⟨j, by omega⟩

set_option maxHeartbeats 2000000 in
theorem implSupportOf_any (n : Int) (a l : Option Addr) (cap capl : Nat) (zs vs : List Int) (w : World) (hi : Ints w a zs) (hj : Ints w l vs) (hn : zs.length ≤ 1048576) (hm : vs.length ≤ 1048576) :
    Calls Try.prog 97 #[.agg #[.int .i64 n, .slice a zs.length cap], .slice l vs.length capl] w (Gives (supA n zs vs) w) := by
  obtain ⟨i0, hi0, hz0, hz1, hz2⟩ := info_parts info_int
  have S0 := SV.new w n a zs cap l vs 25 hi hj
  clear hi hj
  by_cases hv : vvB n zs vs = false
  · have HN := hide (supA_no hv)
    go_enter Try.func97, Try.ntmps97
    go_wp2_with fail
    refine (implValidVotes_any _ _ _ _ _ _ _ _ S0.2.1 S0.2.2.1 hn hm).mono ?_
    rintro e w1 ⟨rfl, hb⟩
    go_wp2
    go_ret
    exact gives_nil HN.out (S0.below hb).2.2.2
  · have hv : vvB n zs vs = true := by simpa using hv
    have HN := hide (supA_yes hv)
    have hV := hide (vv_of hv)
    have HR := hide (votes_range hV.out.1 hV.out.2)
    obtain ⟨m, rfl⟩ := Int.eq_ofNat_of_zero_le (show 0 ≤ n from by have := hV.out.1.1; omega)
    have h4 : m ≤ 4 := by have := hV.out.1.1; omega
    have h5 : vs.length ≤ 5 := by have := hV.out.2.2; omega
    go_enter Try.func97, Try.ntmps97
    go_wp2_with fail
    refine (implValidVotes_any _ _ _ _ _ _ _ _ S0.2.1 S0.2.2.1 hn hm).mono ?_
    rintro e wo ⟨rfl, hb⟩
    have SR := S0.below hb
    clear S0 hb
    obtain ⟨⟨_, c0, c1⟩, _⟩ := SR.pair
    go_wp2_with (at_make; refine wpList_make_full _ rfl _ _ 23 rfl wo.heap.size 3 i0 (.int .i64 0) 1 Try.underlying23 hi0 hz0 hz1 _ _ _ _ m rfl rfl (by omega) (by omega) ?b2 ?b3 (Nat.le_refl _) ?_)
    case b2 => rw [hz2]; omega
    case b3 => unfold maxLen; omega
    intro w0 hown0 hgrow0
    rw [madeInts] at hown0
    have hb0 : Below wo.heap.size wo w0 := (Below.refl _ _).grown hgrow0 (Nat.le_refl _) (fun k h => by cases h)
    clear hgrow0 c0 c1
    go_wp2
    go_loopw [18] (fun i wr => ∃ k : Nat, k ≤ vs.length ∧ i = .int .i64 k ∧ wr.ownsRow wo.heap.size 3 1 (.slice (some ⟨wo.heap.size, 0, none⟩) m m) m ((supKL m vs k).map (Value.int .i64)) ∧ Below wo.heap.size wo wr) (fun i _ => vs.length - (intOf i).toNat)
    case atStart => exact ⟨0, Nat.zero_le _, rfl, by rw [supKL_zero]; exact hown0, hb0⟩
    case round =>
      clear hown0 hb0
      obtain ⟨k, hk, rfl, hown, BR⟩ := hrel
      obtain ⟨⟨_, c0, c1⟩, _, il, _⟩ := (SR.below BR).pair
      by_cases hlt : k < vs.length
      · obtain ⟨lb, lo, rfl, hlb, hlc⟩ := il (by omega)
        have hkk := hlc k hlt
        rw [getD_lt hlt] at hkk
        have rK := hide (HR.out _ (mem_of_at hlt))
        clear hlc il
        go_wp2
        clear hkk c0 c1
        go_loopw [24] (fun i wq => ∃ j : Nat, j ≤ m ∧ i = .int .i64 j ∧ wq.ownsRow wo.heap.size 3 1 (.slice (some ⟨wo.heap.size, 0, none⟩) m m) m ((supMix m vs k j).map (Value.int .i64)) ∧ Below wo.heap.size wo wq) (fun i _ => m - (intOf i).toNat)
        case atStart => exact ⟨0, Nat.zero_le _, rfl, by rw [supMix_zero]; exact hown, BR⟩
        case round =>
          clear hown BR
          obtain ⟨j, hj, rfl, hown, BR⟩ := hrel
          by_cases hjt : j < m
          · have hst := hown.cellAt j (by omega)
            rw [List.getElem?_map, List.getElem?_eq_getElem (by rw [supMix_length]; exact hjt), supMix_at m vs k j hjt] at hst
            have hfz := hown.frozenAt j
            have hbit := shr_bitU vs[k] j rK.out (by omega)
            have hb1 := bitN_le vs[k].toNat j
            have hsk := supK_le vs j k
            have HS := hide (show supK vs j (k + 1) = supK vs j k + bitN vs[k].toNat j from by rw [supK, getD_lt hlt])
            have HM := hide (supMix_set m vs k j hjt)
            go_wp2
            go_region
            all_goals go_wp2
            all_goals
              go_roundw
              case rel => exact ⟨j + 1, by omega, by go_num, by rw [← HM.out, HS.out, List.map_set]; exact (hown.stored j _).1, bdrew' (BR.setCell (p := ⟨wo.heap.size, j, none⟩) (Nat.le_refl _) _)⟩
              case measure => simp [intOf]; omega
          · obtain rfl : j = m := by omega
            go_wp2
            go_roundw
            case rel => exact ⟨k + 1, by omega, by go_num, by rw [← supMix_all]; exact hown, BR⟩
            case measure => simp only [intOf]; omega
      · obtain rfl : k = vs.length := by omega
        go_wp2
        go_ret
        refine ⟨_, rfl, ?_, bnext SR.2.2.2 BR⟩
        rw [HN.out, Int.toNat_natCast]
        refine Owns.le (base := wo.heap.size) ?_ SR.2.2.2.size
        unfold Owns
        rw [supL_length]
        exact hown
end Go.Proofs.Ytnmfhnieknckcaa

/- Want: Wanted answers: the plain sums; impl.WantedPart; MajorityOf in the model and in the program. -/
namespace Go.Proofs.Ytnmfhnieknckcaa
open Go.RowKit Go.Joins

/-- the issues among the first k with a wanted answer -/
def wantC (vs : List Int) : Nat → Nat
  | 0 => 0
  | k + 1 => wantC vs k + if 2 * supN vs k = vs.length then 0 else 2 ^ k
/-- those with the wanted answer 1 -/
def wantB (vs : List Int) : Nat → Nat
  | 0 => 0
  | k + 1 => wantB vs k + if vs.length < 2 * supN vs k then 2 ^ k else 0
theorem wantC_lt (vs : List Int) : ∀ k, wantC vs k < 2 ^ k
  | 0 => by simp [wantC]
  | k + 1 => by have := wantC_lt vs k; unfold wantC; rw [Nat.pow_succ]; split <;> omega
theorem wantB_lt (vs : List Int) : ∀ k, wantB vs k < 2 ^ k
  | 0 => by simp [wantB]
  | k + 1 => by have := wantB_lt vs k; unfold wantB; rw [Nat.pow_succ]; split <;> omega
theorem wantC_yes {vs : List Int} {k : Nat} (h : 2 * supN vs k ≠ vs.length) : wantC vs (k + 1) = wantC vs k + 2 ^ k := by rw [wantC, if_neg h]
theorem wantC_no {vs : List Int} {k : Nat} (h : 2 * supN vs k = vs.length) : wantC vs (k + 1) = wantC vs k := by rw [wantC, if_pos h]; rfl
theorem wantB_yes {vs : List Int} {k : Nat} (h : vs.length < 2 * supN vs k) : wantB vs (k + 1) = wantB vs k + 2 ^ k := by rw [wantB, if_pos h]
theorem wantB_no {vs : List Int} {k : Nat} (h : ¬ vs.length < 2 * supN vs k) : wantB vs (k + 1) = wantB vs k := by rw [wantB, if_neg h]; rfl
/-- a digit more -/
theorem or_digit (c k : Nat) (hk : k < 4) (hc : c < 2 ^ k) : bits .or .i64 (c : Int) (2 ^ k) = ((c + 2 ^ k : Nat) : Int) := by
  have h : ∀ c : Fin 16, ∀ k : Fin 4, c.val < 2 ^ k.val → bits .or .i64 ((c.val : Nat) : Int) (2 ^ k.val) = ((c.val + 2 ^ k.val : Nat) : Int) := by decide +kernel
  have h16 : 2 ^ k ≤ 2 ^ 4 := Nat.pow_le_pow_right (by omega) (by omega)
  exact h ⟨c, by omega⟩ ⟨k, hk⟩ hc
theorem pow_small (k : Nat) (h : k ≤ 4) : (1 : Int) ≤ 2 ^ k ∧ (2 : Int) ^ k ≤ 16 := by
  rcases (show k = 0 ∨ k = 1 ∨ k = 2 ∨ k = 3 ∨ k = 4 from by omega) with rfl | rfl | rfl | rfl | rfl <;> decide
theorem pow_cast (k : Nat) : ((2 ^ k : Nat) : Int) = 2 ^ k := by rw [Int.natCast_pow]; rfl
theorem pw_nat (k : Nat) : pw (k : Int) = 2 ^ k := by unfold pw; rw [Int.toNat_natCast, pow_cast]
theorem wrap_pow2 (k : Nat) (h : k ≤ 4) : wrap64 (2 ^ k) = 2 ^ k := IntWalk.wrap64_in _ (by have := pow_small k h; omega)
theorem mul_pow2 (k : Nat) (h : k ≤ 4) : wrap64 (1 * 2 ^ k) = 2 ^ k := by rw [Int.one_mul]; exact wrap_pow2 k h

theorem ret_part {fn : Func} {p : Tmp} (h : fn.results = #[.cell p 67]) (tmps : Array Value) (w : World) (g : Nat) (x y : Value)
    (hp : tmps.getD p undef = .pointer (some ⟨g, 0, none⟩)) (hw : w.heap[g]? = some (.cells #[x, y] 67 (0, 0))) :
    (results fn tmps).run Try.prog w = .ok (.agg #[x, y]) w := by
  have c0 := cell_of_block hw 0
  have c1 := cell_of_block hw 1
  have hr : (results fn tmps).run Try.prog w = ((asAddr (tmps.getD p undef)).run Try.prog w).andThen fun a w₁ => (loadVar 67 a).run Try.prog w₁ := by
    simp only [results, h]
    simp [Sem.run_bind, Result.andThen]
  rw [hr, hp]
  simp [go_sem] at c0 c1 ⊢
  simp [c0, c1, go_sem]

/-- a space in a variable, the answer's cells and the part's -/
def WV (w0 : World) (n : Int) (a : Option Addr) (zs : List Int) (cap : Nat) (l : Option Addr) (vs : List Int) (wx : World) : Prop :=
  Box wx w0.heap.size n a zs.length cap ∧ Ints wx a zs ∧ Ints wx l vs ∧ wx.heap[w0.heap.size + 1]? = some (.cells #[.int .i64 0, .int .i64 0] 67 (0, 0)) ∧ Below w0.heap.size w0 wx
theorem WV.below {w0 wx wy : World} {n : Int} {a l : Option Addr} {zs vs : List Int} {cap : Nat} (h : WV w0 n a zs cap l vs wx) (hb : Below wx.heap.size wx wy) : WV w0 n a zs cap l vs wy :=
  ⟨h.1.below hb, h.2.1.below hb, h.2.2.1.below hb, (hb.block _ (lt_of_block h.2.2.2.1)).trans h.2.2.2.1, bnext h.2.2.2.2 hb⟩
theorem WV.new (w : World) (n : Int) (a l : Option Addr) (zs vs : List Int) (cap : Nat) (hi : Ints w a zs) (hj : Ints w l vs) :
    WV w n a zs cap l vs ((w.alloc (.cells #[.int .i64 n, .slice a zs.length cap] 25)).alloc (.cells #[.int .i64 0, .int .i64 0] 67)) := by
  have b1 := Box.new w n a zs.length cap 25
  have b2 := heap_alloc_new (w.alloc (.cells #[.int .i64 n, .slice a zs.length cap] 25)) (.cells #[.int .i64 0, .int .i64 0] 67)
  simp only [World.size_alloc] at b2
  exact ⟨b1.below (bel1 _ _), hi.below (bel2 _ _ _), hj.below (bel2 _ _ _), b2, bel2 _ _ _⟩

/-- what WantedPart answers -/
def wpC (n : Int) (zs vs : List Int) : Int := if vvB n zs vs = true then (wantC vs n.toNat : Nat) else 0
def wpB (n : Int) (zs vs : List Int) : Int := if vvB n zs vs = true then (wantB vs n.toNat : Nat) else 0
theorem wpC_yes {n : Int} {zs vs : List Int} (h : vvB n zs vs = true) : wpC n zs vs = (wantC vs n.toNat : Nat) := if_pos h
theorem wpB_yes {n : Int} {zs vs : List Int} (h : vvB n zs vs = true) : wpB n zs vs = (wantB vs n.toNat : Nat) := if_pos h
theorem wpC_no {n : Int} {zs vs : List Int} (h : vvB n zs vs = false) : wpC n zs vs = 0 := if_neg (by rw [h]; decide)
theorem wpB_no {n : Int} {zs vs : List Int} (h : vvB n zs vs = false) : wpB n zs vs = 0 := if_neg (by rw [h]; decide)

/-- what MajorityOf answers -/
def majV (n : Int) (zs vs : List Int) : Int := if vvB n zs vs = true then (wantB vs n.toNat : Nat) else -1
theorem majV_yes {n : Int} {zs vs : List Int} (h : vvB n zs vs = true) : majV n zs vs = (wantB vs n.toNat : Nat) := if_pos h
theorem majV_no {n : Int} {zs vs : List Int} (h : vvB n zs vs = false) : majV n zs vs = -1 := if_neg (by rw [h]; decide)

theorem field_bits (x y : Int) (w : World) : (Instr.field 67 (.agg #[.int .i64 x, .int .i64 y]) 1).run Try.prog w = .ok (.int .i64 y) w := by kernel_rfl

end Go.Proofs.Ytnmfhnieknckcaa

/- Quota: QuotaOf in the model and in the program. -/
namespace Go.Proofs.Ytnmfhnieknckcaa
open Go.RowKit Go.Joins

/-- the issues among the first k that reach their quota -/
def quotaK (vs qs : List Int) : Nat → Nat
  | 0 => 0
  | k + 1 => quotaK vs qs k + if qs.getD k 0 ≤ (supN vs k : Int) then 2 ^ k else 0
theorem quotaK_lt (vs qs : List Int) : ∀ k, quotaK vs qs k < 2 ^ k
  | 0 => by simp [quotaK]
  | k + 1 => by have := quotaK_lt vs qs k; unfold quotaK; rw [Nat.pow_succ]; split <;> omega
theorem quotaK_yes {vs qs : List Int} {k : Nat} (h : qs.getD k 0 ≤ (supN vs k : Int)) : quotaK vs qs (k + 1) = quotaK vs qs k + 2 ^ k := by rw [quotaK, if_pos h]
theorem quotaK_no {vs qs : List Int} {k : Nat} (h : ¬ qs.getD k 0 ≤ (supN vs k : Int)) : quotaK vs qs (k + 1) = quotaK vs qs k := by rw [quotaK, if_neg h]; rfl
def QuotaOk (n : Int) (zs vs qs : List Int) : Prop := vvB n zs vs = true ∧ quotasB n vs.length qs = true
instance (n : Int) (zs vs qs : List Int) : Decidable (QuotaOk n zs vs qs) := by unfold QuotaOk; infer_instance
/-- what QuotaOf answers -/
def quotaV (n : Int) (zs vs qs : List Int) : Int := if QuotaOk n zs vs qs then (quotaK vs qs n.toNat : Nat) else -1
theorem quotaV_yes {n : Int} {zs vs qs : List Int} (h : QuotaOk n zs vs qs) : quotaV n zs vs qs = (quotaK vs qs n.toNat : Nat) := if_pos h
theorem quotaV_no {n : Int} {zs vs qs : List Int} (h : ¬ QuotaOk n zs vs qs) : quotaV n zs vs qs = -1 := if_neg h

/-- a space in a variable, the votes and the quotas -/
def QV (w0 : World) (n : Int) (a : Option Addr) (zs : List Int) (cap : Nat) (l : Option Addr) (vs : List Int) (q : Option Addr) (qs : List Int) (wx : World) : Prop :=
  SV w0 n a zs cap l vs wx ∧ Ints wx q qs
theorem QV.below {w0 wx wy : World} {n : Int} {a l q : Option Addr} {zs vs qs : List Int} {cap : Nat} (h : QV w0 n a zs cap l vs q qs wx) (hb : Below wx.heap.size wx wy) : QV w0 n a zs cap l vs q qs wy :=
  ⟨h.1.below hb, h.2.below hb⟩
theorem QV.new (w : World) (n : Int) (a l q : Option Addr) (zs vs qs : List Int) (cap : Nat) (t : TypeId) (hi : Ints w a zs) (hj : Ints w l vs) (hq : Ints w q qs) : QV w n a zs cap l vs q qs (w.alloc (.cells #[.int .i64 n, .slice a zs.length cap] t)) :=
  ⟨SV.new _ _ _ _ _ _ _ _ hi hj, hq.below (bel1 _ _)⟩


set_option maxHeartbeats 4000000 in
set_option maxRecDepth 100000 in
theorem implQuotaOf_any (n : Int) (a l q : Option Addr) (cap capl capq : Nat) (zs vs qs : List Int) (w : World) (hi : Ints w a zs) (hj : Ints w l vs) (hq : Ints w q qs) (hn : zs.length ≤ 1048576) (hm : vs.length ≤ 1048576) (ho : qs.length ≤ 1048576) :
    Calls Try.prog 36 #[.agg #[.int .i64 n, .slice a zs.length cap], .slice l vs.length capl, .slice q qs.length capq] w fun e w' => e = .returned (.int .i64 (quotaV n zs vs qs)) ∧ Below w.heap.size w w' := by
  have S0 := QV.new w n a l q zs vs qs cap 25 hi hj hq
  clear hi hj hq
  by_cases hv : vvB n zs vs = false
  · have HN := hide (quotaV_no (qs := qs) (fun h : QuotaOk n zs vs qs => by have := h.1; rw [hv] at this; cases this))
    go_enter Try.func36, Try.ntmps36
    go_wp2_with fail
    refine (implValidVotes_any _ _ _ _ _ _ _ _ S0.1.2.1 S0.1.2.2.1 hn hm).mono ?_
    rintro e w1 ⟨rfl, hb⟩
    go_wp2
    go_ret
    exact ⟨ret_int HN.out.symm, (S0.below hb).1.2.2.2⟩
  · have hv : vvB n zs vs = true := by simpa using hv
    have hV := hide (vv_of hv)
    by_cases hqo : quotasB n vs.length qs = false
    · have HN := hide (quotaV_no (zs := zs) (fun h : QuotaOk n zs vs qs => by have := h.2; rw [hqo] at this; cases this))
      go_enter Try.func36, Try.ntmps36
      go_wp2_with fail
      refine (implValidVotes_any _ _ _ _ _ _ _ _ S0.1.2.1 S0.1.2.2.1 hn hm).mono ?_
      rintro e w1 ⟨rfl, hb⟩
      have S1 := S0.below hb
      have ⟨⟨⟨_, c0, c1⟩, _⟩, _⟩ := S1
      go_wp2_with fail
      refine (implValidQuotas_any _ _ _ _ _ _ _ _ _ S1.2 ho).mono ?_
      rintro e w2 ⟨rfl, hb2⟩
      go_wp2
      go_ret
      exact ⟨ret_int HN.out.symm, (S1.below hb2).1.2.2.2⟩
    · have hqo : quotasB n vs.length qs = true := by simpa using hqo
      have HN := hide (quotaV_yes (⟨hv, hqo⟩ : QuotaOk n zs vs qs))
      have HSA := hide (supA_yes hv)
      have hql := (quotas_of hqo).2
      obtain ⟨m, rfl⟩ := Int.eq_ofNat_of_zero_le (show 0 ≤ n from by have := hV.out.1.1; omega)
      have h4 : m ≤ 4 := by have := hV.out.1.1; omega
      have HQM : Hid (qs.length = m) := by unfold Hid; omega
      clear hql
      go_enter Try.func36, Try.ntmps36
      go_wp2_with fail
      refine (implValidVotes_any _ _ _ _ _ _ _ _ S0.1.2.1 S0.1.2.2.1 hn hm).mono ?_
      rintro e w1 ⟨rfl, hb⟩
      have S1 := S0.below hb
      have ⟨⟨⟨_, c0, c1⟩, _⟩, _⟩ := S1
      go_wp2_with fail
      refine (implValidQuotas_any _ _ _ _ _ _ _ _ _ S1.2 ho).mono ?_
      rintro e w2 ⟨rfl, hb2⟩
      have S2 := S1.below hb2
      clear c0 c1 S0 S1 hb hb2
      have ⟨⟨⟨_, c0, c1⟩, _⟩, _⟩ := S2
      go_wp2_with fail
      refine (implSupportOf_any _ _ _ _ _ _ _ _ S2.1.2.1 S2.1.2.2.1 hn hm).mono ?_
      rintro e w3 ⟨v, rfl, ov, hb3⟩
      rw [HSA.out, Int.toNat_natCast] at ov
      obtain ⟨av, cv, rfl, iv, _⟩ := ov.form
      have hl := supL_length m vs
      rw [hl]
      have S3 := S2.below hb3
      clear c0 c1 S2 hb3 ov hl
      obtain ⟨wo, hwo⟩ : ∃ wo : World, wo = w3 := ⟨_, rfl⟩
      subst hwo
      go_wp2_with fail
      go_loop [7, 26] (fun o i => ∃ k : Nat, k ≤ m ∧ i = .int .i64 k ∧ o = .int .i64 (quotaK vs qs k : Nat)) (fun _ i => m - (intOf i).toNat)
      case atStart => exact ⟨0, Nat.zero_le _, rfl, rfl⟩
      case round =>
        obtain ⟨k, hk, rfl, rfl⟩ := hrel
        by_cases hlt : k < m
        · have hlt' : k < (supL m vs).length := by rw [supL_length]; exact hlt
          obtain ⟨b, off, rfl, hbl, hc⟩ := S3.2 (by have := HQM.out; omega)
          have hck := hc k (by have := HQM.out; omega)
          rw [getD_lt (show k < qs.length from by have := HQM.out; omega)] at hck
          obtain ⟨b2, off2, rfl, hbl2, hc2⟩ := iv (by omega)
          have hsk : wo.cell? ⟨b2, off2 + k, none⟩ = some (.int .i64 (supN vs k : Nat)) := by
            rw [hc2 k hlt']
            unfold supL
            rw [supKL_getD m vs vs.length k hlt]
            rfl
          have hkq : k < qs.length := by have := HQM.out; omega
          have hs := supN_le vs k
          have hw2 := wrap_pow2 k (by omega)
          have ho1 := or_digit (quotaK vs qs k) k (by omega) (quotaK_lt vs qs k)
          have HS3 := hide S3
          clear hc hc2 iv hlt' S3
          by_cases hge : qs.getD k 0 ≤ (supN vs k : Int)
          · have HK := hide (quotaK_yes hge)
            have hge' : qs[k]'hkq ≤ (supN vs k : Int) := by rwa [getD_lt hkq] at hge
            clear hge
            go_wp2
            go_round
            case rel => exact ⟨k + 1, by omega, by go_num, by rw [HK.out, Int.natCast_add, pow_cast]⟩
            case measure => simp only [intOf]; omega
          · have HK := hide (quotaK_no hge)
            have hge' : ¬ qs[k]'hkq ≤ (supN vs k : Int) := by rwa [getD_lt hkq] at hge
            clear hge
            go_wp2
            go_round
            case rel => exact ⟨k + 1, by omega, by go_num, by rw [HK.out]⟩
            case measure => simp only [intOf]; omega
        · obtain rfl : k = m := by omega
          go_wp2
          go_ret
          exact ⟨ret_int (by rw [HN.out, Int.toNat_natCast]), S3.1.2.2.2⟩
end Go.Proofs.Ytnmfhnieknckcaa

/- RqA: The rule of quotas answers as the quotas do: plain mathematics, and contracts. -/
namespace Go.Proofs.Ytnmfhnieknckcaa
open Go.RowKit Go.Joins

theorem wt_stepQ : ∀ k : Fin 3, ∀ a : Fin 8, ∀ b : Fin 2, a.val < 2 ^ k.val → wt (a.val + 2 ^ k.val * b.val) = wt a.val + b.val := by decide +kernel
theorem wt_group (vs : List Int) (j : Nat) : ∀ k, k ≤ 3 → wt (groupK vs j k) = supK vs j k
  | 0, _ => by simp only [groupK, supK]; decide
  | k + 1, hk => by
    have ih := wt_group vs j k (by omega)
    have hg := groupK_lt vs j k
    have hb := bitN_le (vs.getD k 0).toNat j
    have h8 : 2 ^ k ≤ 2 ^ 3 := Nat.pow_le_pow_right (by omega) (by omega)
    have := wt_stepQ ⟨k, by omega⟩ ⟨groupK vs j k, by omega⟩ ⟨bitN (vs.getD k 0).toNat j, by omega⟩ hg
    simp only at this
    rw [groupK, supK, this, ih]
theorem rq_apply {n v : Int} {zs qs vs : List Int} (h : RqOk n zs v qs) (hvo : VotesOk zs vs) (hl : (vs.length : Int) = v) : applyR n zs v (ci (rqL v qs)) vs = quotaV n zs vs qs := by
  obtain ⟨hV, _, _⟩ := rq_facts h
  obtain ⟨hq, hql⟩ := quotas_in h.2.2
  have hv := h.2.1
  have hok : ApplyOk n zs v (ci (rqL v qs)) vs := ⟨hV, votesB_true hvo, hl⟩
  have hqo : QuotaOk n zs vs qs := ⟨by rw [vvB_yes h.1]; exact votesB_true hvo, by rw [hl]; exact h.2.2⟩
  rw [applyR_yes hok, quotaV_yes hqo]
  have hlen : (ci (rqL v qs)).length = qs.length := by rw [ci_len]; unfold rqL; rw [List.length_map]
  have hn : n.toNat = qs.length := by omega
  rw [hlen, hn]
  obtain ⟨vN, rfl⟩ : ∃ vN : Nat, v = (vN : Int) := ⟨v.toNat, by omega⟩
  have hvl : vs.length = vN := by omega
  have key : ∀ k, k ≤ qs.length → applyK vs (ci (rqL (vN : Int) qs)) k = quotaK vs qs k := by
    intro k
    induction k with
    | zero => intro _; rfl
    | succ k ih =>
      intro hk
      have hg := groupK_lt vs k vs.length
      have hw := wt_group vs k vs.length (by omega)
      rw [applyK, ih (by omega), rqL_at _ _ (by omega), rqN_bit _ (by rw [← hvl]; exact hg)]
      unfold szF
      rw [hw]
      by_cases hc : qs.getD k 0 ≤ ((supK vs k vs.length : Nat) : Int)
      · rw [if_pos hc, quotaK_yes hc, Nat.mul_one]
      · rw [if_neg hc, quotaK_no hc, Nat.mul_zero, Nat.add_zero]
  rw [key qs.length (Nat.le_refl _)]
theorem equalRule_yes (n : Int) (a b : Option Addr) (ca cb : Nat) (xs : List Int) (w : World) (hx : Ints w a xs) (hy : Ints w b xs) (hn : xs.length ≤ 1048576) :
    Calls Try.prog 34 #[.agg #[.int .i64 n, .slice a xs.length ca], .agg #[.int .i64 n, .slice b xs.length cb]] w fun e w' => e = .returned (.bool true) ∧ Below w.heap.size w w' := by
  have hB := bel2 w (.cells #[.int .i64 n, .slice a xs.length ca] 27) (.cells #[.int .i64 n, .slice b xs.length cb] 27)
  have hx2 := hx.below hB
  have hy2 := hy.below hB
  have heq : (n == n) = true := by simp
  have hE : eqB xs xs = true := by unfold eqB; simp
  have HE := hide hE
  have HB := hide hB
  clear hx hy hE hB
  go_enter Try.func34, Try.ntmps34
  go_wp2_with fail
  refine (equalInts_any _ _ _ _ _ _ _ hx2 hy2 hn hn).mono ?_
  rw [HE.out]
  rintro e w1 ⟨rfl, hb⟩
  go_wp2
  go_ret
  exact ⟨rfl, bnext HB.out hb⟩
theorem implQuotaOf_was (n : Int) (a l q : Option Addr) (cap capl capq : Nat) (zs vs qs : List Int) (r : Int) (w : World) (hi : Ints w a zs) (hj : Ints w l vs) (hq : Ints w q qs) (hn : zs.length ≤ 1048576) (hm : vs.length ≤ 1048576) (ho : qs.length ≤ 1048576) (h : quotaV n zs vs qs = r) :
    Calls Try.prog 36 #[.agg #[.int .i64 n, .slice a zs.length cap], .slice l vs.length capl, .slice q qs.length capq] w fun e w' => e = .returned (.int .i64 r) ∧ Below w.heap.size w w' := by
  subst h
  exact implQuotaOf_any n a l q cap capl capq zs vs qs w hi hj hq hn hm ho
end Go.Proofs.Ytnmfhnieknckcaa

/- PRoq: The law of RuleOfQuotas answers true at every code: its walk. -/
namespace Go.Proofs.Ytnmfhnieknckcaa
open Go.RowKit Go.Joins

theorem bel_alloc_drew {w W : World} (o : Obj) (h : Below w.heap.size w W) : Below w.heap.size w (W.alloc o).drew := by
  have h2 := bnext h (bel1 W o)
  exact ⟨h2.os, h2.tape, h2.output, h2.size, h2.block⟩
theorem vz_all {vs vz ss : List Int} {z : Int} (hvz : vz = vs ++ [z]) (h : ∀ y ∈ vs, y ∈ ss) (hz : z ∈ ss) : ∀ y ∈ vz, y ∈ ss := by
  rw [hvz]
  intro y hy
  rcases List.mem_append.1 hy with hy | hy
  · exact h y hy
  · rw [List.mem_singleton.1 hy]
    exact hz
set_option maxHeartbeats 8000000 in
set_option maxRecDepth 100000 in
theorem walk_FnRuleOfQuotas (a : Option Addr) (zs : List Nat) (cap : Nat) (w : World) (hi : Byts w a zs) (hl : zs.length ≤ maxLen) (hc : zs.length ≤ cap) :
    Calls Try.prog 8 #[.slice a zs.length cap] w fun e w' => e = .returned (.bool true) ∧ Below w.heap.size w w' := by
  obtain ⟨i0, hi0, hz0, hz1, hz2⟩ := info_parts info_int
  by_cases h : 1048576 < zs.length
  · unfold maxLen at hl
    go_enter Try.func8, Try.ntmps8
    go_wp2
    go_ret
    exact ⟨rfl, Below.refl _ _⟩
  · have hl' : zs.length ≤ 1048576 := by omega
    clear h hl
    go_enter Try.func8, Try.ntmps8
    go_wp2_with fail
    refine (drawRuleOfQuotas_any _ _ _ _ hi hl' hc).mono ?_
    rintro e w1 ⟨m, av, ss, cv, k, q, qs, cq, rfl, iv, hsl, iq, hql, hb⟩
    have S0 := SV.new w1 m av ss cv q qs 25 iv iq
    have HB := hide hb
    have hn : ss.length ≤ 65 := hsl
    have hm : qs.length ≤ 10 := hql
    clear hb hi iv iq hl' hsl hql
    obtain ⟨⟨_, c0, c1⟩, _⟩ := S0.pair
    by_cases hok : RqOk m ss k qs
    · have HOK := hide hok
      have HN := hide (show rqV m ss k qs = k from by unfold rqV; rw [if_pos hok])
      have HW := hide (show rqW m ss k qs = ci (rqL k qs) from by unfold rqW; rw [if_pos hok])
      have HO := hide (show rqO m ss k qs = true from by unfold rqO; exact decide_eq_true hok)
      have HLN := hide (show (ci (rqL k qs)).length ≤ 1048576 from by rw [ci_len]; unfold rqL; rw [List.length_map]; omega)
      obtain ⟨HM0, HM1, HM2⟩ := rq_facts hok
      have hk := hok.2.1
      have hss0 := (valid_of hok.1).2.1
      obtain ⟨L, hL⟩ : ∃ L, L = ci (rqL k qs) := ⟨_, rfl⟩
      rw [← hL] at HW HLN HM0 HM1 HM2
      have HLL := hide hL
      have HMO := hide HM1
      have HUN := hide HM2
      clear hok hL HM0 HM1 HM2
      go_wp2_with fail
      refine (implRuleOfQuotas_any _ _ _ _ _ _ _ _ _ S0.2.1 S0.2.2.1 (by omega) (by omega)).mono ?_
      rw [HN.out, HW.out, HO.out]
      rintro e w2 ⟨vr, rfl, ho, b2⟩
      obtain ⟨ra, rc, rfl, ir, _⟩ := ho.form
      have hbb := bnext b2 (bel1 w2 (.cells #[.int .i64 k, .slice ra L.length rc] 27))
      have S2 := S0.below hbb
      have ir2 := ir.below (bel1 w2 (.cells #[.int .i64 k, .slice ra L.length rc] 27))
      have bx2 := Box.new w2 k ra L.length rc 27
      clear c0 c1 S0 b2 ho ir hbb
      obtain ⟨⟨_, c0, c1⟩, _⟩ := S2.pair
      go_wp2_with fail
      refine (specRuleOfQuotas_any _ _ _ _ _ _ _ _ _ S2.2.1 S2.2.2.1 (by omega) (by omega)).mono ?_
      rw [HN.out, HW.out, HO.out]
      rintro e w3 ⟨vt, rfl, ho, b3⟩
      obtain ⟨ta, tc, rfl, it, _⟩ := ho.form
      have hbb := bnext b3 (bel1 w3 (.cells #[.int .i64 k, .slice ta L.length tc] 27))
      have S3 := S2.below hbb
      have ir3 := ir2.below hbb
      have bx3 := bx2.below hbb
      have it3 := it.below (bel1 w3 (.cells #[.int .i64 k, .slice ta L.length tc] 27))
      have bt3 := Box.new w3 k ta L.length tc 27
      clear c0 c1 S2 b3 ho it ir2 bx2 hbb
      obtain ⟨_, d0, d1⟩ := bx3.pair
      obtain ⟨_, e0, e1⟩ := bt3.pair
      go_wp2_with fail
      refine (equalRule_yes _ _ _ _ _ _ _ ir3 it3 HLN.out).mono ?_
      rintro e w4 ⟨rfl, b4⟩
      have S4 := hide (S3.below b4)
      have IR4 := hide (ir3.below b4)
      have BX4 := hide (bx3.below b4)
      clear d0 d1 e0 e1 S3 ir3 bx3 it3 bt3 b4
      obtain ⟨gr, hgr⟩ : ∃ gr, gr = w2.heap.size := ⟨_, rfl⟩
      rw [← hgr] at BX4
      go_wp2_with fail
      rw [← hgr]
      clear hgr
      go_loopw [10] (fun i wq => ∃ ii : Nat, ii ≤ ss.length ∧ i = .int .i64 ii ∧ Below w4.heap.size w4 wq) (fun i _ => ss.length - (intOf i).toNat)
      case atStart => exact ⟨0, Nat.zero_le _, rfl, Below.refl _ _⟩
      case round =>
        obtain ⟨ii, hii, rfl, hbr⟩ := hrel
        have hsr := S4.out.below hbr
        have hbx := BX4.out.below hbr
        obtain ⟨⟨_, c0, c1⟩, _⟩ := hsr.pair
        by_cases hlt : ii < ss.length
        · obtain ⟨sb, so, rfl, hbl, hcc⟩ := hsr.2.1 (by omega)
          have HCC := hide hcc
          have HBL := hide hbl
          have HS := hide hsr
          have HBX := hide hbx
          have HIR := hide (IR4.out.below hbr)
          have HBR := hide hbr
          clear hcc hbl hsr hbx hbr
          obtain ⟨wo, hwo⟩ : ∃ wo : World, wo = wr := ⟨_, rfl⟩
          subst hwo
          go_wp2_with fail
          clear c0 c1
          go_loopw [11] (fun u wq => ∃ vs : List Int, (vs.length : Int) ≤ k ∧ (∀ y ∈ vs, y ∈ ss) ∧ Owns wq wo.heap.size u vs ∧ Below wo.heap.size wo wq) (fun u _ => lackOf 3 u)
          case atStart => exact ⟨[], by simp; omega, fun y hy => by (cases hy), Owns.empty wo (Nat.le_refl _), bel1 _ _⟩
          case round =>
            obtain ⟨vs, hvl, hall, hown, BI⟩ := hrel
            have HALL := hide hall
            have hsq := HS.out.below BI
            obtain ⟨⟨_, c0, c1⟩, _⟩ := hsq.pair
            obtain ⟨va, vc, rfl, hvi, _⟩ := hown.form
            have HVI := hide hvi
            have hsz := BI.size
            have hv3' : vs.length ≤ 3 := by omega
            have BIH := hide BI
            clear hall hvi
            by_cases hlv : (vs.length : Int) < k
            · obtain ⟨K, hKe⟩ : ∃ K, K = (ii + 3 * vs.length) % ss.length := ⟨_, rfl⟩
              have hK1 : K < ss.length := by rw [hKe]; exact Nat.mod_lt _ hss0
              have hKi : Int.tmod ((ii : Int) + 3 * (vs.length : Int)) (ss.length : Int) = (K : Int) := by
                rw [hKe, Int.natCast_emod, ← Int.tmod_eq_emod_of_nonneg (by omega)]
                simp
              have hck := (BI.cell (p := ⟨sb, so + K, none⟩) HBL.out).trans (HCC.out K hK1)
              obtain ⟨z, hz⟩ : ∃ z, z = ss.getD K 0 := ⟨_, rfl⟩
              have hzm : z ∈ ss := by rw [hz, getD_lt hK1]; exact List.getElem_mem _
              rw [← hz] at hck
              have hel := HCC.out K hK1
              rw [← hz] at hel
              have HEL := hide hel
              have HZM := hide hzm
              have hK2 : (0 : Int) ≤ (K : Int) := by omega
              have hK3 : (K : Int) < (ss.length : Int) := by omega
              have hs0 : ¬ (ss.length : Int) = 0 := by omega
              have hs1 : (ss.length : Int) ≠ 0 := by omega
              have hs2 : (0 : Int) < (ss.length : Int) := by omega
              have hs3 : ¬ ss = [] := fun e => by rw [e] at hss0; simp at hss0
              have hKj : ((ii : Int) + 3 * (vs.length : Int)) % (ss.length : Int) = (K : Int) := by rw [hKe]; simp
              have hw1 : IntKind.i64.wrap (3 * (vs.length : Int)) = 3 * (vs.length : Int) := by rw [IntKind.wrap_i64]; omega
              have hw2 : IntKind.i64.wrap ((ii : Int) + 3 * (vs.length : Int)) = (ii : Int) + 3 * (vs.length : Int) := by rw [IntKind.wrap_i64]; omega
              have hw3 : IntKind.i64.wrap (K : Int) = (K : Int) := by rw [IntKind.wrap_i64]; omega
              have HGE := hide (own_ge hown)
              have HOW := hide hown
              have HOD := hide (own_drewS (hown.alloc (.cells #[.int .i64 z] 3)))
              clear hKe hz hzm hsq BI hown hel
              go_upto_region 13 with fail
              go_region_held3 (fun w' => w'.cell? ⟨w1.heap.size, 1, none⟩ = some (.slice (some ⟨sb, so, none⟩) ss.length cv) ∧ w'.cell? ⟨sb, so + K, none⟩ = some (.int .i64 z)) (first | go_keep | exact K5.out)
                ((refine step_append_own (by rfl) _ _ 23 (by rfl) wo.heap.size 3 i0 (.int .i64 0) 1 8 Try.underlying23 hi0 hz0 hz1 hz2 rfl (by decide) _ _ _ (by rfl) HOD.out ⟨wr.heap.size, 0, none⟩ 1 1 [.int .i64 z] (by rfl) (by rfl) (World.news_of_block (cs := #[.int .i64 z]) (t := 3) (fr := (0, 0)) (heap_alloc_new wr _)) (by simp [Value.oneCell']) (by unfold maxLen; omega) (by omega) (by first | (simp; done) | (simp; omega)) ?_; intro v5 w5 hown5 hgrow5 _; have O5 := Owns.push hown5; obtain ⟨vz, hvz⟩ : ∃ vz, vz = vs ++ [z] := ⟨_, rfl⟩; rw [← hvz] at O5; have HL := hide (show vz.length = vs.length + 1 by rw [hvz, List.length_append]; rfl); have HA2 := hide (vz_all hvz HALL.out HZM.out); have B5 := hide (bgrown (bel_alloc_drew (.cells #[.int .i64 z] 3) BIH.out) hgrow5 (bel_alloc_drew (.cells #[.int .i64 z] 3) BIH.out).size (fun j hj => HGE.out j hj)); obtain ⟨qa, qc, rfl, _, _⟩ := O5.form; have HO5 := hide O5; have K5 := hide (show w5.cell? ⟨w1.heap.size, 1, none⟩ = some (.slice (some ⟨sb, so, none⟩) ss.length cv) ∧ w5.cell? ⟨sb, so + K, none⟩ = some (.int .i64 z) from ⟨(HS.out.below B5.out).pair.1.2.2, (B5.out.cell (p := ⟨sb, so + K, none⟩) HBL.out).trans HEL.out⟩); clear O5 hown5 hgrow5 hvz))
              all_goals
                go_wp2
                go_roundw
                case rel => exact ⟨vz, by have := HL.out; omega, HA2.out, HO5.out, B5.out⟩
                case measure => simp only [lackOf]; have := HL.out; omega
            · have hve : (vs.length : Int) = k := by omega
              have hvo : VotesOk ss vs := ⟨fun j hj => by rw [getD_lt hj]; exact HALL.out _ (List.getElem_mem hj), by omega, by omega⟩
              obtain ⟨r, hr⟩ : ∃ r, applyR m ss k L vs = r := ⟨_, rfl⟩
              have HRQ := hide (show quotaV m ss vs qs = r from by rw [← hr, HLL.out, rq_apply HOK.out hvo hve])
              have HRA := hide hr
              have hne2 : (r != r) = false := by simp
              have SD := hide (hsq.below (bdrew' (Below.refl wr.heap.size wr)))
              have XD := hide ((HBX.out.below BI).below (bdrew' (Below.refl wr.heap.size wr)))
              have RD2 := hide ((HIR.out.below BI).below (bdrew' (Below.refl wr.heap.size wr)))
              have VD := hide (HVI.out.below (bdrew' (Below.refl wr.heap.size wr)))
              obtain ⟨⟨_, y0, y1⟩, _⟩ := SD.out.pair
              obtain ⟨_, z0, z1⟩ := XD.out.pair
              have K0 := hide (show wr.drew.cell? ⟨w1.heap.size, 0, none⟩ = some (.int .i64 m) ∧ wr.drew.cell? ⟨w1.heap.size, 1, none⟩ = some (.slice (some ⟨sb, so, none⟩) ss.length cv) ∧ wr.drew.cell? ⟨gr, 0, none⟩ = some (.int .i64 k) ∧ wr.drew.cell? ⟨gr, 1, none⟩ = some (.slice ra L.length rc) from ⟨y0, y1, z0, z1⟩)
              clear hr hvo hown hsq BI c0 c1 y0 y1 z0 z1
              go_upto_region 14 with fail
              go_region_held3 (fun w' => w'.cell? ⟨w1.heap.size, 0, none⟩ = some (.int .i64 m) ∧ w'.cell? ⟨w1.heap.size, 1, none⟩ = some (.slice (some ⟨sb, so, none⟩) ss.length cv) ∧ w'.cell? ⟨gr, 0, none⟩ = some (.int .i64 k) ∧ w'.cell? ⟨gr, 1, none⟩ = some (.slice ra L.length rc))
                (first | exact K7.out | exact K6.out | exact K0.out | go_keep)
                ((first
                  | (go_at_call 35; refine (implApplyA_was _ _ _ _ _ _ _ _ _ _ _ _ _ SD.out.2.1 RD2.out VD.out (by omega) HLN.out (by omega) HRA.out).mono ?_; rintro e w6 ⟨rfl, b6⟩; have S6 := hide (SD.out.below b6); have X6 := hide (XD.out.below b6); have V6 := hide (VD.out.below b6); have K6 := hide (show w6.cell? ⟨w1.heap.size, 0, none⟩ = some (.int .i64 m) ∧ w6.cell? ⟨w1.heap.size, 1, none⟩ = some (.slice (some ⟨sb, so, none⟩) ss.length cv) ∧ w6.cell? ⟨gr, 0, none⟩ = some (.int .i64 k) ∧ w6.cell? ⟨gr, 1, none⟩ = some (.slice ra L.length rc) from ⟨S6.out.pair.1.2.1, S6.out.pair.1.2.2, X6.out.pair.2.1, X6.out.pair.2.2⟩); have B6 := hide (bnext BIH.out (bdrew b6)); clear b6)
                  | (go_at_call 36; refine (implQuotaOf_was _ _ _ _ _ _ _ _ _ _ _ _ S6.out.2.1 V6.out S6.out.2.2.1 (by omega) (by omega) (by omega) HRQ.out).mono ?_; rintro e w7 ⟨rfl, b7⟩; have S7 := hide (S6.out.below b7); have X7 := hide (X6.out.below b7); have K7 := hide (show w7.cell? ⟨w1.heap.size, 0, none⟩ = some (.int .i64 m) ∧ w7.cell? ⟨w1.heap.size, 1, none⟩ = some (.slice (some ⟨sb, so, none⟩) ss.length cv) ∧ w7.cell? ⟨gr, 0, none⟩ = some (.int .i64 k) ∧ w7.cell? ⟨gr, 1, none⟩ = some (.slice ra L.length rc) from ⟨S7.out.pair.1.2.1, S7.out.pair.1.2.2, X7.out.pair.2.1, X7.out.pair.2.2⟩); have B7 := hide (bnext B6.out b7); clear b7)))
              all_goals
                go_wp2
                go_roundw
                case rel => exact ⟨ii + 1, by omega, by go_num, bnext HBR.out B7.out⟩
                case measure => simp only [intOf]; omega
        · obtain rfl : ii = ss.length := by omega
          have HS := hide hsr
          have HBX := hide hbx
          have HIR := hide (IR4.out.below hbr)
          obtain ⟨_, d0, d1⟩ := hbx.pair
          clear hsr hbx hbr
          go_wp2_with fail
          refine (implMono_was _ _ _ _ _ _ _ _ _ _ HS.out.2.1 HIR.out (by omega) HLN.out HMO.out).mono ?_
          rintro e w8 ⟨rfl, b8⟩
          have S8 := HS.out.below b8
          have X8 := HBX.out.below b8
          have R8 := HIR.out.below b8
          clear c0 c1 d0 d1 HS HBX HIR b8
          obtain ⟨⟨_, c0, c1⟩, _⟩ := S8.pair
          obtain ⟨_, d0, d1⟩ := X8.pair
          go_wp2_with fail
          refine (implUnan_was _ _ _ _ _ _ _ _ _ _ S8.2.1 R8 (by omega) HLN.out HUN.out).mono ?_
          rintro e w9 ⟨rfl, b9⟩
          go_wp2
          go_ret
          exact ⟨rfl, bnext HB.out (S8.below b9).2.2.2⟩
    · have HN := hide (show rqV m ss k qs = 0 from by unfold rqV; rw [if_neg hok])
      have HW := hide (show rqW m ss k qs = [] from by unfold rqW; rw [if_neg hok])
      have HO := hide (show rqO m ss k qs = false from by unfold rqO; exact decide_eq_false hok)
      clear hok
      go_wp2_with fail
      refine (implRuleOfQuotas_any _ _ _ _ _ _ _ _ _ S0.2.1 S0.2.2.1 (by omega) (by omega)).mono ?_
      rw [HN.out, HW.out, HO.out]
      rintro e w2 ⟨vr, rfl, ho, b2⟩
      obtain ⟨ra, rc, rfl, ir, _⟩ := ho.form
      have hbb := bnext b2 (bel1 w2 (.cells #[.int .i64 0, .slice ra 0 rc] 27))
      have S2 := S0.below hbb
      have ir2 := ir.below (bel1 w2 (.cells #[.int .i64 0, .slice ra 0 rc] 27))
      have bx2 := Box.new w2 0 ra 0 rc 27
      clear c0 c1 S0 b2 ho ir hbb
      obtain ⟨⟨_, c0, c1⟩, _⟩ := S2.pair
      go_wp2_with fail
      refine (specRuleOfQuotas_any _ _ _ _ _ _ _ _ _ S2.2.1 S2.2.2.1 (by omega) (by omega)).mono ?_
      rw [HN.out, HW.out, HO.out]
      rintro e w3 ⟨vt, rfl, ho, b3⟩
      obtain ⟨ta, tc, rfl, it, _⟩ := ho.form
      have hbb := bnext b3 (bel1 w3 (.cells #[.int .i64 0, .slice ta 0 tc] 27))
      have S3 := S2.below hbb
      have ir3 := ir2.below hbb
      have bx3 := bx2.below hbb
      have it3 := it.below (bel1 w3 (.cells #[.int .i64 0, .slice ta 0 tc] 27))
      have bt3 := Box.new w3 0 ta 0 tc 27
      clear c0 c1 S2 b3 ho it ir2 bx2 hbb
      obtain ⟨_, d0, d1⟩ := bx3.pair
      obtain ⟨_, e0, e1⟩ := bt3.pair
      go_wp2_with fail
      refine (equalRule_yes _ _ _ _ _ _ _ ir3 it3 (by simp)).mono ?_
      rintro e w4 ⟨rfl, b4⟩
      have S4 := S3.below b4
      have ir4 := ir3.below b4
      have it4 := it3.below b4
      have bx4 := bx3.below b4
      have bt4 := bt3.below b4
      clear d0 d1 e0 e1 S3 ir3 bx3 it3 bt3 b4
      obtain ⟨_, d0, d1⟩ := bx4.pair
      obtain ⟨_, e0, e1⟩ := bt4.pair
      go_wp2_with fail
      refine (equalRule_yes _ _ _ _ _ _ _ ir4 it4 (by simp)).mono ?_
      rintro e w5 ⟨rfl, b5⟩
      go_wp2
      go_ret
      exact ⟨rfl, bnext HB.out (S4.below b5).2.2.2⟩
end Go.Proofs.Ytnmfhnieknckcaa
