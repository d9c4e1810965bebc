/- The program's search for an order in which votes are lined up. -/
import Derived.Test.YtccemllgglfgkaaLinM
import Derived.Test.YtccemllgglfgkaaKeep
import Derived.Test.YtccemllgglfgkaaTurn
namespace Go.Proofs.Ytccemllgglfgkaa
open Go.RowKit Go.Joins

theorem contains_was (x : Int) (a : Option Addr) (cap K : Nat) (zs : List Int) (w : World) (r : Bool) (hi : Ints w a zs) (hK : zs.length = K) (hn : K ≤ 1048576) (hr : hasB zs x = r) :
    Calls Try.prog 81 #[.slice a K cap, .int .i64 x] w fun e w' => e = .returned (.bool r) ∧ Below w.heap.size w w' := by
  subst hr hK
  exact contains_any x a cap zs w hi hn
theorem grf (w : World) (row : Option Nat) : w.grownBy w row := ⟨rfl, rfl, rfl, Nat.le_refl _, fun _ _ _ => rfl⟩
theorem gbl {w a b : World} {row : Option Nat} (h : w.grownBy a row) (hb : Below a.heap.size a b) : w.grownBy b row :=
  ⟨hb.os.trans h.os, hb.tape.trans h.tape, hb.output.trans h.output, Nat.le_trans h.size hb.size, fun k hk hne => (hb.block k (by have := h.size; omega)).trans (h.block k hk hne)⟩
theorem gcat {w a b c : World} {row : Option Nat} (h : w.grownBy a row) (hb : Below a.heap.size a b) (hc : b.grownBy c row) (_hs : a.heap.size ≤ b.heap.size) : w.grownBy c row := by
  have h2 := gbl h hb
  exact ⟨hc.os.trans h2.os, hc.tape.trans h2.tape, hc.output.trans h2.output, Nat.le_trans h2.size hc.size, fun k hk hne => (hc.block k (by have := h2.size; omega) hne).trans (h2.block k hk hne)⟩
theorem zero_and_i : ∀ t : Fin 16, bits .and .i64 0 ((t.val : Nat) : Int) = 0 := by decide +kernel
theorem or_zero_i : ∀ t : Fin 16, bits .or .i64 ((t.val : Nat) : Int) 0 = ((t.val : Nat) : Int) := by decide +kernel
theorem own_nonnil {w : World} {base : Nat} {v : Value} {zs : List Int} (h : Owns w base v zs) (hz : zs ≠ []) (e : v = .slice none 0 0) : False := by
  have h' : w.ownsRow base 3 1 v zs.length (zs.map (Value.int .i64)) := h
  rcases h'.2 with ⟨_, h0⟩ | ⟨g, c, cur, hv, _⟩
  · exact hz (List.length_eq_zero_iff.1 (by simpa using h0))
  · rw [e] at hv; cases hv
/-- the contract of the search from a line under way -/
def DnOk (vs : List Int) (l : Option Addr) (capl f : Nat) : Prop :=
  ∀ (hs : List Int) (t : Nat) (w : World) (base : Nat) (v : Value), (∀ W, Below base w W → Ints W l vs) → Owns w base v hs → base ≤ w.heap.size → hs.length + f = vs.length → (∀ h ∈ hs, 0 ≤ h ∧ h < (vs.length : Int)) → t < 16 →
    Calls Try.prog 52 #[.slice l vs.length capl, v, .int .i64 (t : Nat)] w fun e w' => ∃ r, e = .returned r ∧ Owns w' base r (dnL vs f hs t) ∧ (dnL vs f hs t = [] → r = .slice none 0 0) ∧ Owns w' base v hs ∧ w.grownBy w' v.ownBlock
set_option maxHeartbeats 2000000 in
theorem dn_zero (vs : List Int) (l : Option Addr) (capl : Nat) (hp : 0 < vs.length) : DnOk vs l capl 0 := by
  intro hs t w base v hil hown hbase hlen hh ht
  obtain ⟨qa, qc, rfl, _, _⟩ := hown.form
  obtain ⟨N, hN⟩ : ∃ N, vs.length = N := ⟨_, rfl⟩
  have hKN : hs.length = N := by omega
  rw [hN] at hp ⊢
  rw [hKN] at hown ⊢
  have HO := hide hown
  have HE : Hid (hs ≠ []) := fun e => by rw [e] at hKN; simp at hKN; omega
  clear hil hown hlen hh hN hKN
  go_enter Try.func52, Try.ntmps52
  go_wp2
  go_ret
  exact ⟨_, rfl, HO.out, fun e => absurd e HE.out, HO.out, grf _ _⟩
set_option maxHeartbeats 16000000 in
set_option maxRecDepth 100000 in
theorem dn_succ (m f : Nat) (vs : List Int) (l : Option Addr) (capl : Nat) (hm : m ≤ 4) (h5 : vs.length ≤ 5) (hv : ∀ v ∈ vs, 0 ≤ v ∧ v < 2 ^ m) (ih : DnOk vs l capl f) : DnOk vs l capl (f + 1) := by
  intro hs t w base v hil hown hbase hlen hh ht16
  obtain ⟨i0, hi0, hz0, hz1, hz2⟩ := info_parts info_int
  have h16 : 2 ^ m ≤ 16 := Nat.pow_le_pow_right (n := 2) (by omega) hm
  obtain ⟨g, hg⟩ : ∃ g : Nat → List Int, g = fun x : Nat => if (x : Int) ∈ hs then [] else if turnN vs hs x &&& t ≠ 0 then [] else dnL vs f (hs ++ [(x : Int)]) (t ||| turnN vs hs x) := ⟨_, rfl⟩
  have HGI : Hid (∀ x : Nat, (x : Int) ∈ hs → g x = []) := fun x hx => by rw [hg]; exact if_pos hx
  have HGT : Hid (∀ x : Nat, ¬ (x : Int) ∈ hs → ¬ turnN vs hs x &&& t = 0 → g x = []) := fun x hx ht => by rw [hg]; simp only [if_neg hx]; exact if_pos ht
  have HGO : Hid (∀ x : Nat, ¬ (x : Int) ∈ hs → turnN vs hs x &&& t = 0 → g x = dnL vs f (hs ++ [(x : Int)]) (t ||| turnN vs hs x)) := fun x hx ht => by rw [hg]; simp only [if_neg hx]; exact if_neg (fun h => h ht)
  have HD : Hid (dnL vs (f + 1) hs t = firstL g vs.length) := by unfold Hid; rw [hg]; rfl
  have HT : Hid (∀ x, turnN vs hs x < 16) := fun x => Nat.lt_of_lt_of_le (turn_16 hv hs x) h16
  have HTK : Hid (∀ x : Nat, 0 < hs.length → turnN vs hs x = (vs.getD x 0).toNat ^^^ (vs.getD (hs.getD (hs.length - 1) 0).toNat 0).toNat) := fun x h => if_neg (fun e => by rw [e] at h; simp at h)
  have HTZ : Hid (∀ x : Nat, hs.length = 0 → turnN vs hs x = 0) := fun x h => if_pos (List.length_eq_zero_iff.1 h)
  have HV : Hid (∀ y : Nat, (vs.getD y 0).toNat < 16) := fun y => Nat.lt_of_lt_of_le (vs_16 hv y) h16
  have HVN : Hid (∀ y : Nat, y < vs.length → 0 ≤ vs.getD y 0) := fun y hy => by rw [getD_lt hy]; exact (hv _ (List.getElem_mem _)).1
  have HHH := hide hh
  obtain ⟨qa, qc, rfl, _, _⟩ := hown.form
  obtain ⟨ob, hob⟩ : ∃ ob, (Value.slice qa hs.length qc).ownBlock = ob := ⟨_, rfl⟩
  have HOB : Hid (∀ k, ob = some k → base ≤ k) := fun k e => own_ge hown k (by rw [hob]; exact e)
  have HBB : Hid (∀ W, w.grownBy W ob → ∀ W', Below base W W' → Ints W' l vs) := fun W hg W' hb => hil W' (((Below.refl base w).grown hg hbase HOB.out).trans hb)
  have HIH : Hid (∀ (x U : Nat), ¬ (x : Int) ∈ hs → x < vs.length → U < 16 → ∀ (w' : World) (v' : Value), (∀ W, Below base w' W → Ints W l vs) → Owns w' base v' (hs ++ [(x : Int)]) → base ≤ w'.heap.size →
      Calls Try.prog 52 #[.slice l vs.length capl, v', .int .i64 (U : Nat)] w' fun e w'' => ∃ r, e = .returned r ∧ Owns w'' base r (dnL vs f (hs ++ [(x : Int)]) U) ∧ (dnL vs f (hs ++ [(x : Int)]) U = [] → r = .slice none 0 0) ∧ Owns w'' base v' (hs ++ [(x : Int)]) ∧ w'.grownBy w'' v'.ownBlock) := fun x U hx hxl hU w' v' hi ho hb =>
    ih (hs ++ [(x : Int)]) U w' base v' hi ho hb (by rw [List.length_append]; simp; omega) (by
      intro h hh'
      rcases List.mem_append.1 hh' with h1 | h1
      · exact hh h h1
      · rw [List.mem_singleton.1 h1]; omega) hU
  obtain ⟨N, hN⟩ : ∃ N, vs.length = N := ⟨_, rfl⟩
  obtain ⟨K, hK⟩ : ∃ K, hs.length = K := ⟨_, rfl⟩
  have hKN : K < N := by omega
  have hK5 : K ≤ 4 := by omega
  have hneq : ((K : Int) == (N : Int)) = false := by rw [beq_eq_false_iff_ne]; omega
  rw [hN] at HD HIH HVN HHH h5 ⊢
  rw [hK] at hown hob HTK HTZ ⊢
  rw [hob]
  have HK := hide hK
  have HN' := hide hN
  have HOW := hide hob
  clear hil hh hlen hN hK hg ih hv h16
  have G0 := grf w ob
  go_enter Try.func52, Try.ntmps52
  go_wp2
  clear hneq
  go_loopw [19] (fun y wr => ∃ x : Nat, x ≤ N ∧ y = .int .i64 x ∧ firstL g x = [] ∧ Owns wr base (.slice qa K qc) hs ∧ w.grownBy wr ob) (fun y _ => N - (intOf y).toNat)
  case atStart => exact ⟨0, Nat.zero_le _, rfl, rfl, hown, G0⟩
  case round =>
    clear hown G0
    obtain ⟨x, hx, rfl, hf, o1, g1⟩ := hrel
    have HF := hide hf
    clear hf
    by_cases hlt : x < N
    · have IL := HBB.out wr g1 wr (Below.refl _ _)
      have IQ := Owns.ints o1
      have HT16 := hide (HT.out x)
      obtain ⟨lb, lo, rfl, hlb, hlc⟩ := IL (by rw [HN'.out]; omega)
      have hcx := hlc x (by rw [HN'.out]; exact hlt)
      obtain ⟨z, hz⟩ := Int.eq_ofNat_of_zero_le (HVN.out x hlt)
      have hz16 := HV.out x
      rw [hz] at hcx hz16
      rw [Int.toNat_natCast] at hz16
      have HZ := hide hz
      have HO1 := hide o1
      have HG1 := hide g1
      clear hlc hz o1 g1 IL
      by_cases hin : (x : Int) ∈ hs
      · have HHB := hide (hasB_true hin)
        have HN := hide (firstL_none HF.out (HGI.out x hin))
        clear hin
        go_wp2_with fail
        refine (contains_was _ _ _ _ _ _ true IQ HK.out (by omega) HHB.out).mono ?_
        rintro e w2 ⟨rfl, b2⟩
        have O2 := hide (HO1.out.below b2)
        have G2 := hide (gbl HG1.out b2)
        clear b2 IQ
        go_wp2
        go_roundw
        case rel => exact ⟨x + 1, by omega, by go_num, HN.out, O2.out, G2.out⟩
        case measure => simp only [intOf]; omega
      · have HHB : Hid (hasB hs (x : Int) = false) := decide_eq_false hin
        go_wp2_with fail
        refine (contains_was _ _ _ _ _ _ false IQ HK.out (by omega) HHB.out).mono ?_
        rintro e w2 ⟨rfl, b2⟩
        have o2 := HO1.out.below b2
        have g2 := gbl HG1.out b2
        clear b2 IQ hcx HO1 HG1
        have IQ := Owns.ints o2
        have IL := HBB.out w2 g2 w2 (Below.refl _ _)
        by_cases hk0 : K = 0
        · have HT0 : Hid (turnN vs hs x = 0) := HTZ.out x hk0
          have hk0n : ¬ 0 < K := by omega
          clear hk0
          by_cases hA : turnN vs hs x &&& t = 0
          · have hand : bits .and .i64 0 (t : Int) = 0 := zero_and_i ⟨t, ht16⟩
            have hor : bits .or .i64 (t : Int) 0 = ((t ||| turnN vs hs x : Nat) : Int) := by rw [HT0.out, Nat.or_zero]; exact or_zero_i ⟨t, ht16⟩
            have hg := HGO.out x hin hA
            obtain ⟨U, hU⟩ : ∃ U, t ||| turnN vs hs x = U := ⟨_, rfl⟩
            have hU16 : U < 16 := by rw [← hU]; exact Nat.or_lt_two_pow (n := 4) ht16 HT16.out
            rw [hU] at hor hg
            have hfo : g x ≠ [] → firstL g N = g x := fun h => by
              have := firstL_some HF.out h (N - (x + 1))
              rwa [show x + 1 + (N - (x + 1)) = N by omega] at this
            have hfn : g x = [] → firstL g (x + 1) = [] := fun h => firstL_none HF.out h
            rw [hg] at hfo hfn
            have HIX := hide (HIH.out x U hin hlt hU16)
            obtain ⟨R, hR⟩ : ∃ R, dnL vs f (hs ++ [(x : Int)]) U = R := ⟨_, rfl⟩
            rw [hR] at HIX hfo hfn
            have HFO := hide hfo
            have HFN := hide hfn
            have HO2 := hide o2
            have HG2 := hide g2
            have hs2 := HG2.out.size
            clear hin hA hg hU hR hfo hfn o2 g2 IL IQ
            go_wp2_with (at_builtin; refine wpList_append_keep _ rfl _ _ 22 rfl base i0 (.int .i64 0) 8 Try.underlying22 hi0 hz0 hz1 hz2 rfl _ hs rfl (HO2.out.below (bel1 w2 _)) (x : Int) ⟨w2.heap.size, 0, none⟩ 1 rfl ?c1 ?c3 ?c4 ?c5 ?_)
            case c1 => exact cell_one_new _ _ _
            case c3 => unfold maxLen; have := HK.out; omega
            case c4 => have := HK.out; omega
            case c5 => simp; omega
            intro v' w4 own4 lnk1 lnk2 hsz4
            have L1 := hide lnk1
            have L2 := hide lnk2
            have O4 := hide own4
            have G4 := hide (gcat HG2.out (bel1 w2 (.cells #[.int .i64 (x : Int)] 3)) (L2.out w4 (grf w4 _)) (by simp))
            clear lnk1 lnk2 own4
            go_wp2_with fail
            refine (HIX.out w4 v' (HBB.out w4 G4.out) O4.out (by omega)).mono ?_
            rintro e w5 ⟨r, rfl, or5, hn5, ov5, g5⟩
            have OV := hide (L1.out w5 ov5 g5)
            have G5 := hide (gcat HG2.out (bel1 w2 (.cells #[.int .i64 (x : Int)] 3)) (L2.out w5 g5) (by simp))
            have OR := hide or5
            clear ov5 g5 or5 HG2 HO2 O4 G4 L1 L2 HIX
            by_cases hRe : R = []
            · obtain rfl := hn5 hRe
              have HN := hide (HFN.out hRe)
              clear hRe hn5 HFN HFO
              go_wp2
              go_roundw
              case rel => exact ⟨x + 1, by omega, by go_num, HN.out, OV.out, G5.out⟩
              case measure => simp only [intOf]; omega
            · have HN := hide (HFO.out hRe)
              have HRE := hide hRe
              obtain ⟨gr, cr, rfl, _, _⟩ := own_list OR.out (fun e => own_nonnil OR.out hRe e)
              clear hRe hn5 HFN HFO
              go_wp2
              go_ret
              exact ⟨_, rfl, by rw [HD.out, HN.out]; exact OR.out, fun e => absurd ((HD.out.trans HN.out).symm.trans e) HRE.out, OV.out, G5.out⟩
          · have hand : (bits .and .i64 0 (t : Int) != 0) = true := absurd (by rw [HT0.out]; simp) hA
            have HN := hide (firstL_none HF.out (HGT.out x hin hA))
            clear hin hA
            go_wp2
            go_roundw
            case rel => exact ⟨x + 1, by omega, by go_num, HN.out, o2, g2⟩
            case measure => simp only [intOf]; omega
        · have hkp : 0 < K := by omega
          have htk := HTK.out x hkp
          obtain ⟨qb, qo, rfl, hqb, hqc⟩ := IQ (by rw [HK.out]; exact hkp)
          have hcq := hqc (K - 1) (by rw [HK.out]; omega)
          have hyr := HHH.out _ (mem_of_at (zs := hs) (k := K - 1) (by rw [HK.out]; omega))
          rw [← getD_lt (show K - 1 < hs.length by rw [HK.out]; omega)] at hyr
          obtain ⟨y, hy⟩ := Int.eq_ofNat_of_zero_le hyr.1
          rw [hy] at hcq hyr htk
          rw [Int.toNat_natCast] at htk
          obtain ⟨lb', lo', e, hlb', hlc'⟩ := IL (by rw [HN'.out]; omega)
          cases e
          have hyN : y < N := by omega
          have hcy := hlc' y (by rw [HN'.out]; exact hyN)
          obtain ⟨u, hu⟩ := Int.eq_ofNat_of_zero_le (HVN.out y hyN)
          have hu16 := HV.out y
          rw [hu] at hcy hu16 htk
          rw [HZ.out] at htk
          rw [Int.toNat_natCast] at hu16 htk
          rw [Int.toNat_natCast] at htk
          have hxor : bits .xor .i64 (z : Int) (u : Int) = (turnN vs hs x : Int) := by rw [bits_xor ⟨z, hz16⟩ ⟨u, hu16⟩, htk]
          have hw1 : IntKind.i64.wrap ((K : Int) - 1) = ((K - 1 : Nat) : Int) := by rw [IntWalk.i64_in _ (by omega)]; omega
          have hK1 : K - 1 < K := by omega
          clear hqc hy hyr hlc' hu hu16 hz16 htk hlb' hqb
          by_cases hA : turnN vs hs x &&& t = 0
          · have hand : bits .and .i64 (turnN vs hs x : Int) (t : Int) = 0 := by rw [bits_and ⟨_, HT16.out⟩ ⟨t, ht16⟩]; simp only; omega
            have hor : bits .or .i64 (t : Int) (turnN vs hs x : Int) = ((t ||| turnN vs hs x : Nat) : Int) := bits_or ⟨t, ht16⟩ ⟨_, HT16.out⟩
            have hg := HGO.out x hin hA
            obtain ⟨U, hU⟩ : ∃ U, t ||| turnN vs hs x = U := ⟨_, rfl⟩
            have hU16 : U < 16 := by rw [← hU]; exact Nat.or_lt_two_pow (n := 4) ht16 HT16.out
            rw [hU] at hor hg
            have hfo : g x ≠ [] → firstL g N = g x := fun h => by
              have := firstL_some HF.out h (N - (x + 1))
              rwa [show x + 1 + (N - (x + 1)) = N by omega] at this
            have hfn : g x = [] → firstL g (x + 1) = [] := fun h => firstL_none HF.out h
            rw [hg] at hfo hfn
            have HIX := hide (HIH.out x U hin hlt hU16)
            obtain ⟨R, hR⟩ : ∃ R, dnL vs f (hs ++ [(x : Int)]) U = R := ⟨_, rfl⟩
            rw [hR] at HIX hfo hfn
            have HFO := hide hfo
            have HFN := hide hfn
            have HO2 := hide o2
            have HG2 := hide g2
            have hs2 := HG2.out.size
            clear hin hA hg hU hR hfo hfn o2 g2 IL IQ
            go_wp2_with (at_builtin; refine wpList_append_keep _ rfl _ _ 22 rfl base i0 (.int .i64 0) 8 Try.underlying22 hi0 hz0 hz1 hz2 rfl _ hs rfl (HO2.out.below (bel1 w2 _)) (x : Int) ⟨w2.heap.size, 0, none⟩ 1 rfl ?c1 ?c3 ?c4 ?c5 ?_)
            case c1 => exact cell_one_new _ _ _
            case c3 => unfold maxLen; have := HK.out; omega
            case c4 => have := HK.out; omega
            case c5 => simp; omega
            intro v' w4 own4 lnk1 lnk2 hsz4
            have L1 := hide lnk1
            have L2 := hide lnk2
            have O4 := hide own4
            have G4 := hide (gcat HG2.out (bel1 w2 (.cells #[.int .i64 (x : Int)] 3)) (L2.out w4 (grf w4 _)) (by simp))
            clear lnk1 lnk2 own4
            go_wp2_with fail
            refine (HIX.out w4 v' (HBB.out w4 G4.out) O4.out (by omega)).mono ?_
            rintro e w5 ⟨r, rfl, or5, hn5, ov5, g5⟩
            have OV := hide (L1.out w5 ov5 g5)
            have G5 := hide (gcat HG2.out (bel1 w2 (.cells #[.int .i64 (x : Int)] 3)) (L2.out w5 g5) (by simp))
            have OR := hide or5
            clear ov5 g5 or5 HG2 HO2 O4 G4 L1 L2 HIX
            by_cases hRe : R = []
            · obtain rfl := hn5 hRe
              have HN := hide (HFN.out hRe)
              clear hRe hn5 HFN HFO
              go_wp2
              go_roundw
              case rel => exact ⟨x + 1, by omega, by go_num, HN.out, OV.out, G5.out⟩
              case measure => simp only [intOf]; omega
            · have HN := hide (HFO.out hRe)
              have HRE := hide hRe
              obtain ⟨gr, cr, rfl, _, _⟩ := own_list OR.out (fun e => own_nonnil OR.out hRe e)
              clear hRe hn5 HFN HFO
              go_wp2
              go_ret
              exact ⟨_, rfl, by rw [HD.out, HN.out]; exact OR.out, fun e => absurd ((HD.out.trans HN.out).symm.trans e) HRE.out, OV.out, G5.out⟩
          · have hand : (bits .and .i64 (turnN vs hs x : Int) (t : Int) != 0) = true := by rw [bits_and ⟨_, HT16.out⟩ ⟨t, ht16⟩]; simp; omega
            have HN := hide (firstL_none HF.out (HGT.out x hin hA))
            clear hin hA
            go_wp2
            go_roundw
            case rel => exact ⟨x + 1, by omega, by go_num, HN.out, o2, g2⟩
            case measure => simp only [intOf]; omega
    · obtain rfl : x = N := by omega
      have HO1 := hide o1
      have HG1 := hide g1
      clear o1 g1
      go_wp2
      go_ret
      exact ⟨_, rfl, by rw [HD.out, HF.out]; exact World.ownsRow_nil _ _ _ _, fun _ => rfl, HO1.out, HG1.out⟩
theorem lineFrom_any (m : Nat) (vs : List Int) (l : Option Addr) (capl : Nat) (hm : m ≤ 4) (h5 : vs.length ≤ 5) (hp : 0 < vs.length) (hv : ∀ v ∈ vs, 0 ≤ v ∧ v < 2 ^ m) : ∀ f, DnOk vs l capl f
  | 0 => dn_zero vs l capl hp
  | f + 1 => dn_succ m f vs l capl hm h5 hv (lineFrom_any m vs l capl hm h5 hp hv f)
end Go.Proofs.Ytccemllgglfgkaa
