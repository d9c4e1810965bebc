/- The law of MajorityOf answers true at every code: majorities by medians; its walk. -/
import Derived.Test.YtljbapfemjdneaaDrawT
import Derived.Test.YtljbapfemjdneaaLawH
import Derived.Test.YtljbapfemjdneaaSet
import Derived.Test.YtljbapfemjdneaaMedI
import Derived.Deep.RegionHeld3
namespace Go.Proofs.Ytljbapfemjdneaa
open Go.RowKit Go.Joins

theorem wantC_full' {vs : List Int} (h : vs.length % 2 = 1) : ∀ k, wantC vs k + 1 = 2 ^ k
  | 0 => by simp [wantC]
  | k + 1 => by
    have ih := wantC_full' h k
    rw [wantC_yes (by omega), Nat.pow_succ]
    omega

theorem bit_med_fin : ∀ x : Fin 16, ∀ y : Fin 16, ∀ z : Fin 16, ∀ j : Fin 4, bitN (med x.val y.val z.val) j.val = if 2 ≤ bitN x.val j.val + bitN y.val j.val + bitN z.val j.val then 1 else 0 := by decide +kernel
theorem bit_med {x y z j : Nat} (hx : x < 16) (hy : y < 16) (hz : z < 16) (hj : j < 4) : bitN (med x y z) j = if 2 ≤ bitN x j + bitN y j + bitN z j then 1 else 0 := bit_med_fin ⟨x, hx⟩ ⟨y, hy⟩ ⟨z, hz⟩ ⟨j, hj⟩
theorem wantB_mod {vs : List Int} {X : Nat} : ∀ k, (∀ j, j < k → (bitN X j = 1 ↔ vs.length < 2 * supN vs j)) → wantB vs k = X % 2 ^ k
  | 0, _ => by simp [wantB, Nat.mod_one]
  | k + 1, h => by
    have ih := wantB_mod k (fun j hj => h j (by omega))
    have hk := h k (by omega)
    have hb := bitN_le X k
    rw [Nat.pow_succ, Nat.mod_mul, ← ih]
    by_cases hc : vs.length < 2 * supN vs k
    · have h1 := hk.2 hc
      unfold bitN at h1
      rw [wantB_yes hc, h1, Nat.mul_one]
    · have h0 : bitN X k = 0 := by
        have : ¬ bitN X k = 1 := fun e => hc (hk.1 e)
        omega
      unfold bitN at h0
      rw [wantB_no hc, h0, Nat.mul_zero, Nat.add_zero]
/-- the majority of an odd number of votes, by medians -/
theorem maj_mem {n : Int} {zs vs : List Int} (h : vvB n zs vs = true) (ho : vs.length % 2 = 1) (hm : closedB med n zs = true) : (wantB vs n.toNat : Int) ∈ zs := by
  obtain ⟨hV, hO⟩ := vv_of h
  have h14 := hV.1
  have hc := (closed_iff join_med hV).1 hm
  have hr := valid_range hV
  have hc3 : ∀ a b c : Nat, (a : Int) ∈ zs → (b : Int) ∈ zs → (c : Int) ∈ zs → ((med a b c : Nat) : Int) ∈ zs := fun a b c ha hb hcc => by
    have at_ : ∀ t : Nat, (t : Int) ∈ zs → ∃ i, i < zs.length ∧ zN zs i = t := fun t ht => by
      obtain ⟨i, hi, e⟩ := List.getElem_of_mem ht
      exact ⟨i, hi, by unfold zN; rw [getD_lt hi, e]; simp⟩
    obtain ⟨i, hi, rfl⟩ := at_ a ha
    obtain ⟨j, hj, rfl⟩ := at_ b hb
    obtain ⟨k, hk, rfl⟩ := at_ c hcc
    exact hc i j k hi hj hk
  have hlt : ∀ t : Nat, (t : Int) ∈ zs → t < 2 ^ n.toNat := fun t ht => by
    obtain ⟨i, hi, e⟩ := List.getElem_of_mem ht
    have := (hV.2.2 i hi).1
    rw [getD_lt hi, e] at this
    unfold pw at this
    omega
  have h16 : ∀ t : Nat, (t : Int) ∈ zs → t < 16 := fun t ht => by have := hr _ ht; omega
  have nat_ : ∀ x : Int, x ∈ zs → ∃ t : Nat, x = t := fun x hx => ⟨x.toNat, by have := hr x hx; omega⟩
  have fin_ : ∀ X : Nat, (X : Int) ∈ zs → (∀ j, j < n.toNat → (bitN X j = 1 ↔ vs.length < 2 * supN vs j)) → (wantB vs n.toNat : Int) ∈ zs := fun X hX hb => by
    rw [wantB_mod n.toNat hb, Nat.mod_eq_of_lt (hlt X hX)]
    exact hX
  have hmem := hO.mem
  have hl := hO.2
  match vs, ho, hmem, hl, fin_ with
  | [a], _, hmem, _, fin_ =>
    have ha := hmem a (by simp)
    obtain ⟨x, rfl⟩ := nat_ a ha
    refine fin_ x ha (fun j hj => ?_)
    have e : supN [(x : Int)] j = bitN x j := by simp [supN, supK]
    rw [e]
    have := bitN_le x j
    simp only [List.length_cons, List.length_nil]
    omega
  | [a, b], ho, _, _, _ => simp at ho
  | [a, b, c, d], ho, _, _, _ => simp at ho
  | [a, b, c], _, hmem, _, fin_ =>
    have ha := hmem a (by simp)
    have hb := hmem b (by simp)
    have hc' := hmem c (by simp)
    obtain ⟨x, rfl⟩ := nat_ a ha
    obtain ⟨y, rfl⟩ := nat_ b hb
    obtain ⟨z, rfl⟩ := nat_ c hc'
    refine fin_ (med x y z) (hc3 x y z ha hb hc') (fun j hj => ?_)
    have e : supN [(x : Int), (y : Int), (z : Int)] j = bitN x j + bitN y j + bitN z j := by simp [supN, supK]
    rw [e, bit_med (h16 x ha) (h16 y hb) (h16 z hc') (by omega)]
    simp only [List.length_cons, List.length_nil]
    split <;> omega
  | [a, b, c, d, f], _, hmem, _, fin_ =>
    have ha := hmem a (by simp)
    have hb := hmem b (by simp)
    have hc' := hmem c (by simp)
    have hd := hmem d (by simp)
    have hf := hmem f (by simp)
    obtain ⟨v, rfl⟩ := nat_ a ha
    obtain ⟨u, rfl⟩ := nat_ b hb
    obtain ⟨x, rfl⟩ := nat_ c hc'
    obtain ⟨y, rfl⟩ := nat_ d hd
    obtain ⟨z, rfl⟩ := nat_ f hf
    have m1 := hc3 x y z hc' hd hf
    have m2 := hc3 u y z hb hd hf
    have m3 := hc3 u x (med u y z) hb hc' m2
    refine fin_ (med v (med x y z) (med u x (med u y z))) (hc3 v _ _ ha m1 m3) (fun j hj => ?_)
    have e : supN [(v : Int), (u : Int), (x : Int), (y : Int), (z : Int)] j = bitN v j + bitN u j + bitN x j + bitN y j + bitN z j := by simp [supN, supK]
    have l1 := bitN_le v j
    have l2 := bitN_le u j
    have l3 := bitN_le x j
    have l4 := bitN_le y j
    have l5 := bitN_le z j
    rw [e, bit_med (h16 v ha) (h16 _ m1) (h16 _ m3) (by omega), bit_med (h16 x hc') (h16 y hd) (h16 z hf) (by omega), bit_med (h16 u hb) (h16 x hc') (h16 _ m2) (by omega), bit_med (h16 u hb) (h16 y hd) (h16 z hf) (by omega)]
    simp only [List.length_cons, List.length_nil]
    split <;> split <;> split <;> split <;> omega
/-- What the law of MajorityOf needs of valid votes. -/
theorem maj_facts {n : Int} {zs vs : List Int} (h : vvB n zs vs = true) :
    (1 ≤ n ∧ n ≤ 4) ∧ (0 ≤ majV n zs vs ∧ majV n zs vs < pw n) ∧ (vs.length % 2 = 1 → inB n zs (majV n zs vs) = setB n zs vs) ∧ (vs.length % 2 = 1 → closedB med n zs = true → inB n zs (majV n zs vs) = true) := by
  obtain ⟨hV, hO⟩ := vv_of h
  have h14 := hV.1
  have hlt := wantB_lt vs n.toNat
  have hV' := vsB_true hV
  refine ⟨h14, ?_, fun ho => ?_, fun ho hm => ?_⟩
  · rw [majV_yes h]
    unfold pw
    omega
  · rw [setB_yes h, inB_true hV', majV_yes h]
    have hfull := wantC_full' ho n.toNat
    unfold openB hasB
    rw [Bool.eq_iff_iff, List.any_eq_true, decide_eq_true_eq]
    constructor
    · intro hm
      refine ⟨_, hm, ?_⟩
      unfold hpB
      rw [Int.toNat_natCast, Int.toNat_natCast, beq_iff_eq]
      have : wantC vs n.toNat = 2 ^ n.toNat - 1 := by omega
      rw [this, Nat.and_two_pow_sub_one_eq_mod, Nat.mod_eq_of_lt hlt]
    · rintro ⟨x, hx, he⟩
      have hxr := valid_range hV x hx
      obtain ⟨i, hi, e⟩ := List.getElem_of_mem hx
      have hx' := (hV.2.2 i hi).1
      rw [getD_lt hi, e] at hx'
      unfold hpB at he
      rw [Int.toNat_natCast, Int.toNat_natCast, beq_iff_eq] at he
      have : wantC vs n.toNat = 2 ^ n.toNat - 1 := by omega
      rw [this, Nat.and_two_pow_sub_one_eq_mod, Nat.mod_eq_of_lt (by unfold pw at hx'; omega)] at he
      rw [← he, Int.toNat_of_nonneg hxr.1]
      exact hx
  · rw [inB_true hV', majV_yes h]
    exact hasB_true (maj_mem h ho hm)
theorem settled_is (n : Int) (a l : Option Addr) (cap capl : Nat) (zs vs : List Int) (w : World) (r : Bool) (hi : Ints w a zs) (hj : Ints w l vs) (hn : zs.length ≤ 1048576) (hm : vs.length ≤ 1048576) (hr : setB n zs vs = r) :
    Calls Try.prog 52 #[.agg #[.int .i64 n, .slice a zs.length cap], .slice l vs.length capl] w fun e w' => e = .returned (.bool r) ∧ Below w.heap.size w w' := by
  subst hr
  exact implIsSettled_any n a l cap capl zs vs w hi hj hn hm
theorem median_is (n : Int) (a : Option Addr) (cap : Nat) (zs : List Int) (w : World) (r : Bool) (hi : Ints w a zs) (hn : zs.length ≤ 1048576) (hcap : zs.length ≤ cap) (hr : closedB med n zs = r) :
    Calls Try.prog 53 #[.agg #[.int .i64 n, .slice a zs.length cap]] w fun e w' => e = .returned (.bool r) ∧ Below w.heap.size w w' := by
  subst hr
  exact implIsMedian_any n a cap zs w hi hn hcap
theorem inSpace_is' (n x : Int) (a : Option Addr) (cap : Nat) (zs : List Int) (w : World) (r : Bool) (hi : Ints w a zs) (hn : zs.length ≤ 1048576) (hr : inB n zs x = r) :
    Calls Try.prog 16 #[.agg #[.int .i64 n, .slice a zs.length cap], .int .i64 x] w fun e w' => e = .returned (.bool r) ∧ Below w.heap.size w w' := by
  subst hr
  exact implInSpace_any n x a cap zs w hi hn
/-- What a draw of a space and votes out of a code leaves, and how long the space's row is. -/
def DrawSVCPost (w : World) (e : Ending) (w' : World) : Prop :=
  ∃ (m : Int) (a : Option Addr) (zs : List Int) (cap : Nat) (l : Option Addr) (ls : List Int) (capl : Nat), e = .returned (.tuple #[.agg #[.int .i64 m, .slice a zs.length cap], .slice l ls.length capl]) ∧ Ints w' a zs ∧ zs.length ≤ 65 ∧ zs.length ≤ cap ∧ Ints w' l ls ∧ ls.length ≤ 10 ∧ Below w.heap.size w w'
set_option maxHeartbeats 4000000 in
set_option maxRecDepth 100000 in
theorem drawMajorityCap_any (a : Option Addr) (cap : Nat) (zs : List Nat) (w : World) (hi : Byts w a zs) (hl : zs.length ≤ 1048576) (hc : zs.length ≤ cap) :
    Calls Try.prog 49 #[.slice a zs.length cap] w (DrawSVCPost w) := by
  have h0 := heap_alloc_new w (.cells #[.int .i64 0, .slice none 0 0] 25)
  have b0 := bel1 w (.cells #[.int .i64 0, .slice none 0 0] 25)
  have hi0 := hi.below b0
  have H0 := hide h0
  have HB0 := hide b0
  clear hi h0 b0
  go_enter Try.func49, Try.ntmps49
  go_wp2_with fail
  refine (newReader_any _ _ _ _ hi0 hl hc).mono ?_
  rintro e w1 ⟨R, rfl, hR, rd, B⟩
  have s1 := hide ((B.block w.heap.size (by simp)).trans H0.out)
  have B1 := hide (bnext HB0.out B)
  have hR' : w.heap.size + 1 ≤ R := by simpa using hR
  have HR := hide hR'
  have hlt := rd.lt
  clear hR hR' B hi0
  go_wp2_with fail
  refine (someVotes_any R 0 _ rd (by omega)).mono ?_
  rintro e w2 ⟨m, v, ss, u, ls, rfl, own, hsl, owu, hll, g, rd2⟩
  obtain ⟨av, cv, rfl, _, _⟩ := own.form
  obtain ⟨au, cu, rfl, _, _⟩ := owu.form
  have hcap := hide own.cap
  have hRs := HR.out
  have s2 := hide ((g.block w.heap.size (lt_of_block s1.out) (by first | (simp; done) | (simp; omega))).trans s1.out)
  have q0 := cell_of_block s2.out 0
  have q1 := cell_of_block s2.out 1
  have k0 := unfrozen_of_block s2.out 0
  have k1 := unfrozen_of_block s2.out 1
  have B2 := hide (bgrown B1.out g B1.out.size (fun k hk => by cases hk; omega))
  have hO := hide ((own.set2 (g := w.heap.size) (by omega) (.int .i64 m) (.slice av ss.length cv)).ints)
  have hU := hide ((owu.set2 (g := w.heap.size) (by omega) (.int .i64 m) (.slice av ss.length cv)).ints)
  clear s1 B1 rd rd2 g own owu H0 HB0
  go_wp2_with fail
  refine bodyPost_ret (ret_cross rfl _ _ _ _ _ rfl (block_setCell (i := 1) (block_setCell (i := 0) s2.out _) _)) rfl ?_
  exact ⟨m, av, ss, cv, au, ls, cu, rfl, hO.out, hsl, hcap.out, hU.out, hll, (B2.out.setCell (p := ⟨w.heap.size, 0, none⟩) (Nat.le_refl _) _).setCell (p := ⟨w.heap.size, 1, none⟩) (Nat.le_refl _) _⟩

set_option maxHeartbeats 4000000 in
set_option maxRecDepth 100000 in
theorem walk_FnMajorityOf (a : Option Addr) (zs : List Nat) (cap : Nat) (w : World) (hi : Byts w a zs) (hl : zs.length ≤ maxLen) (hc : zs.length ≤ cap) :
    Calls Try.prog 11 #[.slice a zs.length cap] w fun e w' => e = .returned (.bool true) ∧ Below w.heap.size w w' := by
  by_cases h : 1048576 < zs.length
  · unfold maxLen at hl
    go_enter Try.func11, Try.ntmps11
    go_wp2
    go_ret
    exact ⟨rfl, Below.refl _ _⟩
  · have hl' : zs.length ≤ 1048576 := by omega
    clear h hl
    go_enter Try.func11, Try.ntmps11
    go_wp2_with fail
    refine (drawMajorityCap_any _ _ _ _ hi hl' hc).mono ?_
    rintro e w1 ⟨m, av, ss, cv, al, ls, cl, rfl, ii, hsl, hcap, il, hll, hb⟩
    have S0 := SV.new w1 m av ss cv al ls 25 ii il
    have HB := hide hb
    have hn : ss.length ≤ 1048576 := by omega
    have hm : ls.length ≤ 1048576 := by omega
    have hne : (majV m ss ls != majV m ss ls) = false := by simp
    have heq : (majV m ss ls == majV m ss ls) = true := by simp
    clear hb hi ii il hl' hsl
    obtain ⟨⟨_, c0, c1⟩, _⟩ := S0.pair
    go_wp2_with fail
    refine (implMajorityOf_any _ _ _ _ _ _ _ _ S0.2.1 S0.2.2.1 hn hm).mono ?_
    rintro e w2 ⟨rfl, b2⟩
    have S2 := S0.below b2
    clear c0 c1 S0 b2
    obtain ⟨⟨_, c0, c1⟩, _⟩ := S2.pair
    go_wp2_with fail
    refine (specMajorityOf_any _ _ _ _ _ _ _ _ S2.2.1 S2.2.2.1 hn hm).mono ?_
    rintro e w3 ⟨rfl, b3⟩
    have S3 := S2.below b3
    clear c0 c1 S2 b3
    obtain ⟨⟨_, c0, c1⟩, _⟩ := S3.pair
    by_cases hv : vvB m ss ls = true
    · go_wp2_with fail
      refine (implVotes_is _ _ _ _ _ _ _ _ true S3.2.1 S3.2.2.1 hn hm hv).mono ?_
      rintro e w4 ⟨rfl, b4⟩
      have S4 := S3.below b4
      obtain ⟨h14, hrg, hsame, hmed⟩ := maj_facts hv
      have p1 := pw_pos m
      have p2 := pw_le m h14.2
      clear c0 c1 S3 b4 hne heq hv
      by_cases ho : ls.length % 2 = 1
      · have e1 : (ls.length : Int) % 2 = 1 := by omega
        have e2 : Int.tmod (ls.length : Int) 2 = 1 := by rw [Int.tmod_eq_emod_of_nonneg (by omega)]; exact e1
        have HSA := hide (hsame ho)
        have HME := hide (hmed ho)
        clear hsame hmed ho
        have SD : Hid (SV w1 m av ss cv al ls w4.drew) := S4.drew
        have id0 := SD.out.2.1
        obtain ⟨⟨_, c0, c1⟩, _⟩ := S4.pair
        obtain ⟨r, hr⟩ : ∃ r, r = setB m ss ls := ⟨_, rfl⟩
        have hset : setB m ss ls = r := hr.symm
        have hin : inB m ss (majV m ss ls) = r := HSA.out.trans hset
        have hrr : (r == r) = true := by simp
        have HI := hide hin
        have HS := hide hset
        clear hr hset hin e1
        go_upto_region 9 with fail
        have hin := HI.out
        have hset := HS.out
        clear c0 c1
        have c0 := SD.out.1.2.1
        have c1 := SD.out.1.2.2
        by_cases hmed : closedB med m ss = true
        · have hin2 := HME.out hmed
          refine wp_region_held_drew (S := (fun w' => w'.cell? ⟨w1.heap.size, 0, none⟩ = some (.int .i64 m) ∧ w'.cell? ⟨w1.heap.size, 1, none⟩ = some (.slice av ss.length cv))) (by kernel_rfl) ?_ (fun hHeld => ?_)
          · exact ⟨c0, c1⟩
          refine wpAnyH_take (i := 0) (v := ?vvy0) rfl (by kernel_rfl) (by kernel_rfl) (by kernel_rfl) (fun _ _ _ h => h) (Or.inl ⟨by rfl, ?hyy0⟩) (by assumption) ?resty0
          case hyy0 => (intro w hSw; (try dsimp only at hSw); go_simp; (try with_reducible rfl))
          case resty0 =>
            (try simp only [Act.put, List.setIfInBounds_toArray, List.set_cons_zero, List.set_cons_succ, List.getElem_toArray, List.getElem_cons_zero])
            refine wpAnyH_take (i := 1) (v := ?vvy1) rfl (by kernel_rfl) (by kernel_rfl) (by kernel_rfl) (fun _ _ _ h => h) (Or.inl ⟨by rfl, ?hyy1⟩) (by assumption) ?resty1
            case hyy1 => (intro w hSw; (try dsimp only at hSw); go_simp; (try with_reducible rfl))
            case resty1 =>
              (try simp only [Act.put, List.setIfInBounds_toArray, List.set_cons_zero, List.set_cons_succ, List.getElem_toArray, List.getElem_cons_zero, List.getElem_cons_succ])
              refine wpAnyH_take (i := 3) (v := ?vvy3) rfl (by kernel_rfl) (by kernel_rfl) (by kernel_rfl) (fun _ _ _ h => h) (Or.inl ⟨by rfl, ?hyy3⟩) (by assumption) ?resty3
              case hyy3 => (intro w hSw; (try dsimp only at hSw); go_simp; (try with_reducible rfl))
              case resty3 =>
                (try simp only [Act.put, List.setIfInBounds_toArray, List.set_cons_zero, List.set_cons_succ, List.getElem_toArray, List.getElem_cons_zero, List.getElem_cons_succ])
                refine wpAnyH_take (i := 4) (v := ?vvy4) rfl (by kernel_rfl) (by kernel_rfl) (by kernel_rfl) (fun _ _ _ h => h) (Or.inl ⟨by rfl, ?hyy4⟩) (by assumption) ?resty4
                case hyy4 => (intro w hSw; (try dsimp only at hSw); go_simp; (try with_reducible rfl))
                case resty4 =>
                  (try simp only [Act.put, List.setIfInBounds_toArray, List.set_cons_zero, List.set_cons_succ, List.getElem_toArray, List.getElem_cons_zero, List.getElem_cons_succ])
                  refine wpAnyH_ready (rs := [2]) (by kernel_rfl) (by simp) ?_
                  refine AllReadyH.cons rfl (fun K hK => ?_) AllReadyH.nil
                  go_simp
                  (go_at_call 16; (with_reducible refine (inSpace_is' _ _ _ _ _ _ r id0 hn hin).mono ?_); rintro e w10 ⟨rfl, b10⟩; have S10 := hide (SD.out.below b10); have i10 := S10.out.2.1; have j10 := S10.out.2.2.1; clear b10)
                  go_wp2_with fail
                  refine hK.out _ _ ?_ (fun hHeld => ?_)
                  · exact ⟨S10.out.1.2.1, S10.out.1.2.2⟩
                  clear hK K
                  (try simp only [Act.put, List.setIfInBounds_toArray, List.set_cons_zero, List.set_cons_succ, List.getElem_toArray, List.getElem_cons_zero, List.getElem_cons_succ])
                  refine wpAnyH_ready (rs := [5]) (by kernel_rfl) (by simp) ?_
                  refine AllReadyH.cons rfl (fun K hK => ?_) AllReadyH.nil
                  go_simp
                  (go_at_call 52; (with_reducible refine (settled_is _ _ _ _ _ _ _ _ r i10 j10 hn hm hset).mono ?_); rintro e w11 ⟨rfl, b11⟩; have S11 := hide (S10.out.below b11); have i11 := S11.out.2.1; have j11 := S11.out.2.2.1; clear b11)
                  go_wp2_with fail
                  refine hK.out _ _ ?_ (fun hHeld => ?_)
                  · exact ⟨S11.out.1.2.1, S11.out.1.2.2⟩
                  clear hK K
                  (try simp only [Act.put, List.setIfInBounds_toArray, List.set_cons_zero, List.set_cons_succ, List.getElem_toArray, List.getElem_cons_zero, List.getElem_cons_succ])
                  refine wpAnyH_take (i := 6) (v := ?vvy6) rfl (by kernel_rfl) (by kernel_rfl) (by kernel_rfl) (fun _ _ _ h => h) (Or.inl ⟨by rfl, ?hyy6⟩) (by assumption) ?resty6
                  case hyy6 => (intro w hSw; (try dsimp only at hSw); go_simp; (try with_reducible rfl))
                  case resty6 =>
                    (try simp only [Act.put, List.setIfInBounds_toArray, List.set_cons_zero, List.set_cons_succ, List.getElem_toArray, List.getElem_cons_zero, List.getElem_cons_succ])
                    refine wpAnyH_take (i := 7) (v := ?vvy7) rfl (by kernel_rfl) (by kernel_rfl) (by kernel_rfl) (fun _ _ _ h => h) (Or.inl ⟨by rfl, ?hyy7⟩) (by assumption) ?resty7
                    case hyy7 => (intro w hSw; (try dsimp only at hSw); go_simp; (try with_reducible rfl))
                    case resty7 =>
                      (try simp only [Act.put, List.setIfInBounds_toArray, List.set_cons_zero, List.set_cons_succ, List.getElem_toArray, List.getElem_cons_zero, List.getElem_cons_succ])
                      refine wpAnyH_take (i := 8) (v := ?vvy8) rfl (by kernel_rfl) (by kernel_rfl) (by kernel_rfl) (fun _ _ _ h => h) (Or.inl ⟨by rfl, ?hyy8⟩) (by assumption) ?resty8
                      case hyy8 => (intro w hSw; (try dsimp only at hSw); go_simp; (try with_reducible rfl))
                      case resty8 =>
                        (try simp only [Act.put, List.setIfInBounds_toArray, List.set_cons_zero, List.set_cons_succ, List.getElem_toArray, List.getElem_cons_zero, List.getElem_cons_succ])
                        refine wpAnyH_ready (rs := [9]) (by kernel_rfl) (by simp) ?_
                        refine AllReadyH.cons rfl (fun K hK => ?_) AllReadyH.nil
                        go_simp
                        (go_at_call 53; (with_reducible refine (median_is _ _ _ _ _ true i11 hn hcap hmed).mono ?_); rintro e w12 ⟨rfl, b12⟩; have S12 := hide (S11.out.below b12); have i12 := S12.out.2.1; have j12 := S12.out.2.2.1; clear b12)
                        go_wp2_with fail
                        refine hK.out _ _ ?_ (fun hHeld => ?_)
                        · exact ⟨S12.out.1.2.1, S12.out.1.2.2⟩
                        clear hK K
                        (try simp only [Act.put, List.setIfInBounds_toArray, List.set_cons_zero, List.set_cons_succ, List.getElem_toArray, List.getElem_cons_zero, List.getElem_cons_succ])
                        refine wpAnyH_take (i := 10) (v := ?vvy10) rfl (by kernel_rfl) (by kernel_rfl) (by kernel_rfl) (fun _ _ _ h => h) (Or.inl ⟨by rfl, ?hyy10⟩) (by assumption) ?resty10
                        case hyy10 => (intro w hSw; (try dsimp only at hSw); go_simp; (try with_reducible rfl))
                        case resty10 =>
                          (try simp only [Act.put, List.setIfInBounds_toArray, List.set_cons_zero, List.set_cons_succ, List.getElem_toArray, List.getElem_cons_zero, List.getElem_cons_succ])
                          refine wpAnyH_take (i := 11) (v := ?vvy11) rfl (by kernel_rfl) (by kernel_rfl) (by kernel_rfl) (fun _ _ _ h => h) (Or.inl ⟨by rfl, ?hyy11⟩) (by assumption) ?resty11
                          case hyy11 => (intro w hSw; (try dsimp only at hSw); go_simp; (try with_reducible rfl))
                          case resty11 =>
                            (try simp only [Act.put, List.setIfInBounds_toArray, List.set_cons_zero, List.set_cons_succ, List.getElem_toArray, List.getElem_cons_zero, List.getElem_cons_succ])
                            refine wpAnyH_take (i := 12) (v := ?vvy12) rfl (by kernel_rfl) (by kernel_rfl) (by kernel_rfl) (fun _ _ _ h => h) (Or.inl ⟨by rfl, ?hyy12⟩) (by assumption) ?resty12
                            case hyy12 => (intro w hSw; (try dsimp only at hSw); go_simp; (try with_reducible rfl))
                            case resty12 =>
                              (try simp only [Act.put, List.setIfInBounds_toArray, List.set_cons_zero, List.set_cons_succ, List.getElem_toArray, List.getElem_cons_zero, List.getElem_cons_succ])
                              refine wpAnyH_take (i := 13) (v := ?vvy13) rfl (by kernel_rfl) (by kernel_rfl) (by kernel_rfl) (fun _ _ _ h => h) (Or.inl ⟨by rfl, ?hyy13⟩) (by assumption) ?resty13
                              case hyy13 => (intro w hSw; (try dsimp only at hSw); go_simp; (try with_reducible rfl))
                              case resty13 =>
                                (try simp only [Act.put, List.setIfInBounds_toArray, List.set_cons_zero, List.set_cons_succ, List.getElem_toArray, List.getElem_cons_zero, List.getElem_cons_succ])
                                refine wpAnyH_ready (rs := [14]) (by kernel_rfl) (by simp) ?_
                                refine AllReadyH.cons rfl (fun K hK => ?_) AllReadyH.nil
                                go_simp
                                (go_at_call 16; (with_reducible refine (inSpace_is' _ _ _ _ _ _ true i12 hn hin2).mono ?_); rintro e w13 ⟨rfl, b13⟩; have S13 := hide (S12.out.below b13); have i13 := S13.out.2.1; have j13 := S13.out.2.2.1; clear b13)
                                go_wp2_with fail
                                refine hK.out _ _ ?_ (fun hHeld => ?_)
                                · exact ⟨S13.out.1.2.1, S13.out.1.2.2⟩
                                clear hK K
                                (try simp only [Act.put, List.setIfInBounds_toArray, List.set_cons_zero, List.set_cons_succ, List.getElem_toArray, List.getElem_cons_zero, List.getElem_cons_succ])
                                refine wpAnyH_take (i := 15) (v := ?vvy15) rfl (by kernel_rfl) (by kernel_rfl) (by kernel_rfl) (fun _ _ _ h => h) (Or.inl ⟨by rfl, ?hyy15⟩) (by assumption) ?resty15
                                case hyy15 => (intro w hSw; (try dsimp only at hSw); go_simp; (try with_reducible rfl))
                                case resty15 =>
                                  (try simp only [Act.put, List.setIfInBounds_toArray, List.set_cons_zero, List.set_cons_succ, List.getElem_toArray, List.getElem_cons_zero, List.getElem_cons_succ])
                                  refine wpAnyH_take (i := 16) (v := ?vvy16) rfl (by kernel_rfl) (by kernel_rfl) (by kernel_rfl) (fun _ _ _ h => h) (Or.inl ⟨by rfl, ?hyy16⟩) (by assumption) ?resty16
                                  case hyy16 => (intro w hSw; (try dsimp only at hSw); go_simp; (try with_reducible rfl))
                                  case resty16 =>
                                    (try simp only [Act.put, List.setIfInBounds_toArray, List.set_cons_zero, List.set_cons_succ, List.getElem_toArray, List.getElem_cons_zero, List.getElem_cons_succ])
                                    refine wpAnyH_take (i := 17) (v := ?vvy17) rfl (by kernel_rfl) (by kernel_rfl) (by kernel_rfl) (fun _ _ _ h => h) (Or.inl ⟨by rfl, ?hyy17⟩) (by assumption) ?resty17
                                    case hyy17 => (intro w hSw; (try dsimp only at hSw); go_simp; (try with_reducible rfl))
                                    case resty17 =>
                                      (try simp only [Act.put, List.setIfInBounds_toArray, List.set_cons_zero, List.set_cons_succ, List.getElem_toArray, List.getElem_cons_zero, List.getElem_cons_succ])
                                      refine wpAnyH_done (by kernel_rfl) ?_ _
                                      go_wp2
                                      go_ret
                                      exact ⟨rfl, bnext HB.out S13.out.2.2.2⟩
        · have hmed : closedB med m ss = false := by simpa using hmed
          refine wp_region_held_drew (S := (fun w' => w'.cell? ⟨w1.heap.size, 0, none⟩ = some (.int .i64 m) ∧ w'.cell? ⟨w1.heap.size, 1, none⟩ = some (.slice av ss.length cv))) (by kernel_rfl) ?_ (fun hHeld => ?_)
          · exact ⟨c0, c1⟩
          refine wpAnyH_take (i := 0) (v := ?vvn0) rfl (by kernel_rfl) (by kernel_rfl) (by kernel_rfl) (fun _ _ _ h => h) (Or.inl ⟨by rfl, ?hyn0⟩) (by assumption) ?restn0
          case hyn0 => (intro w hSw; (try dsimp only at hSw); go_simp; (try with_reducible rfl))
          case restn0 =>
            (try simp only [Act.put, List.setIfInBounds_toArray, List.set_cons_zero, List.set_cons_succ, List.getElem_toArray, List.getElem_cons_zero])
            refine wpAnyH_take (i := 1) (v := ?vvn1) rfl (by kernel_rfl) (by kernel_rfl) (by kernel_rfl) (fun _ _ _ h => h) (Or.inl ⟨by rfl, ?hyn1⟩) (by assumption) ?restn1
            case hyn1 => (intro w hSw; (try dsimp only at hSw); go_simp; (try with_reducible rfl))
            case restn1 =>
              (try simp only [Act.put, List.setIfInBounds_toArray, List.set_cons_zero, List.set_cons_succ, List.getElem_toArray, List.getElem_cons_zero, List.getElem_cons_succ])
              refine wpAnyH_take (i := 3) (v := ?vvn3) rfl (by kernel_rfl) (by kernel_rfl) (by kernel_rfl) (fun _ _ _ h => h) (Or.inl ⟨by rfl, ?hyn3⟩) (by assumption) ?restn3
              case hyn3 => (intro w hSw; (try dsimp only at hSw); go_simp; (try with_reducible rfl))
              case restn3 =>
                (try simp only [Act.put, List.setIfInBounds_toArray, List.set_cons_zero, List.set_cons_succ, List.getElem_toArray, List.getElem_cons_zero, List.getElem_cons_succ])
                refine wpAnyH_take (i := 4) (v := ?vvn4) rfl (by kernel_rfl) (by kernel_rfl) (by kernel_rfl) (fun _ _ _ h => h) (Or.inl ⟨by rfl, ?hyn4⟩) (by assumption) ?restn4
                case hyn4 => (intro w hSw; (try dsimp only at hSw); go_simp; (try with_reducible rfl))
                case restn4 =>
                  (try simp only [Act.put, List.setIfInBounds_toArray, List.set_cons_zero, List.set_cons_succ, List.getElem_toArray, List.getElem_cons_zero, List.getElem_cons_succ])
                  refine wpAnyH_ready (rs := [2]) (by kernel_rfl) (by simp) ?_
                  refine AllReadyH.cons rfl (fun K hK => ?_) AllReadyH.nil
                  go_simp
                  (go_at_call 16; (with_reducible refine (inSpace_is' _ _ _ _ _ _ r id0 hn hin).mono ?_); rintro e w10 ⟨rfl, b10⟩; have S10 := hide (SD.out.below b10); have i10 := S10.out.2.1; have j10 := S10.out.2.2.1; clear b10)
                  go_wp2_with fail
                  refine hK.out _ _ ?_ (fun hHeld => ?_)
                  · exact ⟨S10.out.1.2.1, S10.out.1.2.2⟩
                  clear hK K
                  (try simp only [Act.put, List.setIfInBounds_toArray, List.set_cons_zero, List.set_cons_succ, List.getElem_toArray, List.getElem_cons_zero, List.getElem_cons_succ])
                  refine wpAnyH_ready (rs := [5]) (by kernel_rfl) (by simp) ?_
                  refine AllReadyH.cons rfl (fun K hK => ?_) AllReadyH.nil
                  go_simp
                  (go_at_call 52; (with_reducible refine (settled_is _ _ _ _ _ _ _ _ r i10 j10 hn hm hset).mono ?_); rintro e w11 ⟨rfl, b11⟩; have S11 := hide (S10.out.below b11); have i11 := S11.out.2.1; have j11 := S11.out.2.2.1; clear b11)
                  go_wp2_with fail
                  refine hK.out _ _ ?_ (fun hHeld => ?_)
                  · exact ⟨S11.out.1.2.1, S11.out.1.2.2⟩
                  clear hK K
                  (try simp only [Act.put, List.setIfInBounds_toArray, List.set_cons_zero, List.set_cons_succ, List.getElem_toArray, List.getElem_cons_zero, List.getElem_cons_succ])
                  refine wpAnyH_take (i := 6) (v := ?vvn6) rfl (by kernel_rfl) (by kernel_rfl) (by kernel_rfl) (fun _ _ _ h => h) (Or.inl ⟨by rfl, ?hyn6⟩) (by assumption) ?restn6
                  case hyn6 => (intro w hSw; (try dsimp only at hSw); go_simp; (try with_reducible rfl))
                  case restn6 =>
                    (try simp only [Act.put, List.setIfInBounds_toArray, List.set_cons_zero, List.set_cons_succ, List.getElem_toArray, List.getElem_cons_zero, List.getElem_cons_succ])
                    refine wpAnyH_take (i := 7) (v := ?vvn7) rfl (by kernel_rfl) (by kernel_rfl) (by kernel_rfl) (fun _ _ _ h => h) (Or.inl ⟨by rfl, ?hyn7⟩) (by assumption) ?restn7
                    case hyn7 => (intro w hSw; (try dsimp only at hSw); go_simp; (try with_reducible rfl))
                    case restn7 =>
                      (try simp only [Act.put, List.setIfInBounds_toArray, List.set_cons_zero, List.set_cons_succ, List.getElem_toArray, List.getElem_cons_zero, List.getElem_cons_succ])
                      refine wpAnyH_take (i := 8) (v := ?vvn8) rfl (by kernel_rfl) (by kernel_rfl) (by kernel_rfl) (fun _ _ _ h => h) (Or.inl ⟨by rfl, ?hyn8⟩) (by assumption) ?restn8
                      case hyn8 => (intro w hSw; (try dsimp only at hSw); go_simp; (try with_reducible rfl))
                      case restn8 =>
                        (try simp only [Act.put, List.setIfInBounds_toArray, List.set_cons_zero, List.set_cons_succ, List.getElem_toArray, List.getElem_cons_zero, List.getElem_cons_succ])
                        refine wpAnyH_ready (rs := [9]) (by kernel_rfl) (by simp) ?_
                        refine AllReadyH.cons rfl (fun K hK => ?_) AllReadyH.nil
                        go_simp
                        (go_at_call 53; (with_reducible refine (median_is _ _ _ _ _ false i11 hn hcap hmed).mono ?_); rintro e w12 ⟨rfl, b12⟩; have S12 := hide (S11.out.below b12); have i12 := S12.out.2.1; have j12 := S12.out.2.2.1; clear b12)
                        go_wp2_with fail
                        refine hK.out _ _ ?_ (fun hHeld => ?_)
                        · exact ⟨S12.out.1.2.1, S12.out.1.2.2⟩
                        clear hK K
                        (try simp only [Act.put, List.setIfInBounds_toArray, List.set_cons_zero, List.set_cons_succ, List.getElem_toArray, List.getElem_cons_zero, List.getElem_cons_succ])
                        refine wpAnyH_take (i := 10) (v := ?vvn10) rfl (by kernel_rfl) (by kernel_rfl) (by kernel_rfl) (fun _ _ _ h => h) (Or.inl ⟨by rfl, ?hyn10⟩) (by assumption) ?restn10
                        case hyn10 => (intro w hSw; (try dsimp only at hSw); go_simp; (try with_reducible rfl))
                        case restn10 =>
                          (try simp only [Act.put, List.setIfInBounds_toArray, List.set_cons_zero, List.set_cons_succ, List.getElem_toArray, List.getElem_cons_zero, List.getElem_cons_succ])
                          refine wpAnyH_take (i := 11) (v := ?vvn11) rfl (by kernel_rfl) (by kernel_rfl) (by kernel_rfl) (fun _ _ _ h => h) (Or.inl ⟨by rfl, ?hyn11⟩) (by assumption) ?restn11
                          case hyn11 => (intro w hSw; (try dsimp only at hSw); go_simp; (try with_reducible rfl))
                          case restn11 =>
                            (try simp only [Act.put, List.setIfInBounds_toArray, List.set_cons_zero, List.set_cons_succ, List.getElem_toArray, List.getElem_cons_zero, List.getElem_cons_succ])
                            refine wpAnyH_take (i := 12) (v := undef) rfl (by kernel_rfl) (by kernel_rfl) (by kernel_rfl) (fun _ _ _ h => h) (Or.inr ⟨by rfl, rfl⟩) (by assumption) ?_
                            (try simp only [Act.put, List.setIfInBounds_toArray, List.set_cons_zero, List.set_cons_succ, List.getElem_toArray, List.getElem_cons_zero, List.getElem_cons_succ])
                            refine wpAnyH_take (i := 13) (v := undef) rfl (by kernel_rfl) (by kernel_rfl) (by kernel_rfl) (fun _ _ _ h => h) (Or.inr ⟨by rfl, rfl⟩) (by assumption) ?_
                            (try simp only [Act.put, List.setIfInBounds_toArray, List.set_cons_zero, List.set_cons_succ, List.getElem_toArray, List.getElem_cons_zero, List.getElem_cons_succ])
                            refine wpAnyH_take (i := 14) (v := undef) rfl (by kernel_rfl) (by kernel_rfl) (by kernel_rfl) (fun _ _ _ h => h) (Or.inr ⟨by rfl, rfl⟩) (by assumption) ?_
                            (try simp only [Act.put, List.setIfInBounds_toArray, List.set_cons_zero, List.set_cons_succ, List.getElem_toArray, List.getElem_cons_zero, List.getElem_cons_succ])
                            refine wpAnyH_take (i := 15) (v := ?vvn15) rfl (by kernel_rfl) (by kernel_rfl) (by kernel_rfl) (fun _ _ _ h => h) (Or.inl ⟨by rfl, ?hyn15⟩) (by assumption) ?restn15
                            case hyn15 => (intro w hSw; (try dsimp only at hSw); go_simp; (try with_reducible rfl))
                            case restn15 =>
                              (try simp only [Act.put, List.setIfInBounds_toArray, List.set_cons_zero, List.set_cons_succ, List.getElem_toArray, List.getElem_cons_zero, List.getElem_cons_succ])
                              refine wpAnyH_take (i := 16) (v := ?vvn16) rfl (by kernel_rfl) (by kernel_rfl) (by kernel_rfl) (fun _ _ _ h => h) (Or.inl ⟨by rfl, ?hyn16⟩) (by assumption) ?restn16
                              case hyn16 => (intro w hSw; (try dsimp only at hSw); go_simp; (try with_reducible rfl))
                              case restn16 =>
                                (try simp only [Act.put, List.setIfInBounds_toArray, List.set_cons_zero, List.set_cons_succ, List.getElem_toArray, List.getElem_cons_zero, List.getElem_cons_succ])
                                refine wpAnyH_take (i := 17) (v := ?vvn17) rfl (by kernel_rfl) (by kernel_rfl) (by kernel_rfl) (fun _ _ _ h => h) (Or.inl ⟨by rfl, ?hyn17⟩) (by assumption) ?restn17
                                case hyn17 => (intro w hSw; (try dsimp only at hSw); go_simp; (try with_reducible rfl))
                                case restn17 =>
                                  (try simp only [Act.put, List.setIfInBounds_toArray, List.set_cons_zero, List.set_cons_succ, List.getElem_toArray, List.getElem_cons_zero, List.getElem_cons_succ])
                                  refine wpAnyH_done (by kernel_rfl) ?_ _
                                  go_wp2
                                  go_ret
                                  exact ⟨rfl, bnext HB.out S12.out.2.2.2⟩
      · have e1 : (ls.length : Int) % 2 = 0 := by omega
        have e2 : Int.tmod (ls.length : Int) 2 = 0 := by rw [Int.tmod_eq_emod_of_nonneg (by omega)]; exact e1
        obtain ⟨hM0, hM1⟩ := hrg
        clear hsame hmed ho
        obtain ⟨⟨_, c0, c1⟩, _⟩ := S4.pair
        go_wp2_with (go_at_call 19; refine (lawPower_any _ _ (by omega) (by omega)).mono ?_; rintro e w' ⟨rfl, rfl⟩)
        go_ret
        exact ⟨rfl, bnext HB.out S4.2.2.2⟩
    · have hv : vvB m ss ls = false := by simpa using hv
      go_wp2_with fail
      refine (implVotes_is _ _ _ _ _ _ _ _ false S3.2.1 S3.2.2.1 hn hm hv).mono ?_
      rintro e w4 ⟨rfl, b4⟩
      have S4 := S3.below b4
      clear c0 c1 S3 b4 hv
      obtain ⟨⟨_, c0, c1⟩, _⟩ := S4.pair
      go_wp2_with fail
      refine (specMajorityOf_any _ _ _ _ _ _ _ _ S4.2.1 S4.2.2.1 hn hm).mono ?_
      rintro e w5 ⟨rfl, b5⟩
      have S5 := S4.below b5
      go_wp2
      go_ret
      exact ⟨rfl, bnext HB.out S5.2.2.2⟩
end Go.Proofs.Ytljbapfemjdneaa
