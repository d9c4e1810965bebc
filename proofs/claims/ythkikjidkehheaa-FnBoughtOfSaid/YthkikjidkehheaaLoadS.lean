/- LoadedOf of the model. -/
import Derived.Test.YthkikjidkehheaaLoadG
import Derived.Test.YthkikjidkehheaaApart
import Derived.Test.YthkikjidkehheaaSeat
namespace Go.Proofs.Ythkikjidkehheaa
open Go.RowKit Go.Joins

theorem small_facts {bs : List Int} {ls : List Nat} (hb : ∀ i, ls.getD i 0 ≤ 38880) (x : Nat) : ∀ k, k ≤ 6 → sumK bs ls x k ≤ 233280 := fun k hk => by
  have := sumK_le (bs := bs) (x := x) hb k
  omega
theorem scan_small {bs : List Int} {ls : List Nat} {den : Nat} {ns : List Nat} (h6 : bs.length ≤ 6) (hd : den ≤ 7776) (hb : ∀ i, ls.getD i 0 ≤ 38880) (x : Nat) :
    -1 ≤ (scanL bs ls den ns x).1 ∧ (scanL bs ls den ns x).1 < (x : Int) ∧ (scanL bs ls den ns x).2.1 ≤ 241056 ∧ (scanL bs ls den ns x).2.2 ≤ 6 ∧ 1 ≤ (scanL bs ls den ns x).2.2 := by
  rcases scanL_ok (bs := bs) (ls := ls) (den := den) (ns := ns) x with ⟨_, e⟩ | ⟨a, e, h1, _, h3⟩
  · rw [e]; simp; omega
  · rw [e]
    have := small_facts (bs := bs) hb a bs.length h6
    have := supN_le bs a
    simp only
    unfold topN sumN
    omega
theorem mul_small {a b A B : Nat} (ha : a ≤ A) (hb : b ≤ B) : ((a : Nat) : Int) * (b : Int) = ((a * b : Nat) : Int) ∧ a * b ≤ A * B := ⟨by rw [Int.natCast_mul], Nat.mul_le_mul ha hb⟩
theorem fits_in {bs : List Int} {ls : List Nat} {den : Nat} {ns : List Nat} {x : Nat} {r : Int × Nat × Nat} (h : x ∈ ns) : fitsL bs ls den ns x r = false := by
  unfold fitsL
  rw [List.contains_iff_mem.2 h]; rfl
theorem fits_none {bs : List Int} {ls : List Nat} {den : Nat} {ns : List Nat} {x : Nat} {r : Int × Nat × Nat} (h : supN bs x = 0) : fitsL bs ls den ns x r = false := by
  unfold fitsL
  rw [decide_eq_false (fun e => e h)]; simp
theorem fits_new {bs : List Int} {ls : List Nat} {den : Nat} {ns : List Nat} {x : Nat} {r : Int × Nat × Nat} (h : ¬ x ∈ ns) (h2 : supN bs x ≠ 0) (h3 : r.1 < 0) : fitsL bs ls den ns x r = true := by
  unfold fitsL
  rw [decide_eq_true h2, decide_eq_true h3]; simp [h]
theorem fits_less {bs : List Int} {ls : List Nat} {den : Nat} {ns : List Nat} {x : Nat} {r : Int × Nat × Nat} (h : ¬ x ∈ ns) (h2 : supN bs x ≠ 0) (h3 : ¬ r.1 < 0) : fitsL bs ls den ns x r = decide (topN bs ls den x * r.2.2 < r.2.1 * supN bs x) := by
  unfold fitsL
  rw [decide_eq_true h2, decide_eq_false h3]; simp [h]
/-- the least free name, found from above -/
def lastFree (ns : List Nat) (c : Nat) (t : Nat) (a : Int) : Prop := (a = -1 ∧ ∀ x, t ≤ x → x < c → x ∈ ns) ∨ ∃ b : Nat, a = (b : Int) ∧ t ≤ b ∧ b < c ∧ ¬ b ∈ ns ∧ ∀ x, t ≤ x → x < b → x ∈ ns
theorem lastFree_end {ns : List Nat} {c : Nat} {a : Int} (h : lastFree ns c 0 a) (hc : ns.length < c) : a = (freeN ns : Nat) := by
  have hfl := free_le ns
  rcases h with ⟨_, h⟩ | ⟨b, rfl, _, hb, hn, h⟩
  · exact absurd (h (freeN ns) (by omega) (by omega)) (free_not ns)
  · rcases Nat.lt_trichotomy b (freeN ns) with e | e | e
    · exact absurd (free_below ns e) hn
    · rw [e]
    · exact absurd (h _ (by omega) e) (free_not ns)
/-- the loads while the first i of them are turned -/
def loadTo (bs : List Int) (ls : List Nat) (a top bot i : Nat) : List Nat := (List.range bs.length).map fun t => if t < i then (if bitN (bs.getD t 0).toNat a = 1 then top else ls.getD t 0 * bot) else ls.getD t 0
theorem loadTo_len (bs : List Int) (ls : List Nat) (a top bot i : Nat) : (loadTo bs ls a top bot i).length = bs.length := by simp [loadTo]
theorem loadTo_zero {bs : List Int} {ls : List Nat} (h : ls.length = bs.length) (a top bot : Nat) : loadTo bs ls a top bot 0 = ls := by
  refine List.ext_getElem (by rw [loadTo_len, h]) fun t h1 h2 => ?_
  simp [loadTo, List.getD_eq_getElem?_getD, h2]
theorem loadTo_all (bs : List Int) (ls : List Nat) (a top bot : Nat) : loadTo bs ls a top bot bs.length = loadUp bs ls a top bot := by
  unfold loadTo loadUp
  exact List.map_congr_left fun t ht => by rw [if_pos (by simpa using ht)]
theorem loadTo_at {bs : List Int} {ls : List Nat} {a top bot i : Nat} (h : i < bs.length) : (loadTo bs ls a top bot i)[i]'(by rw [loadTo_len]; exact h) = ls.getD i 0 := by simp [loadTo]
theorem loadTo_set {bs : List Int} {ls : List Nat} {a top bot i : Nat} : (loadTo bs ls a top bot i).set i (if bitN (bs.getD i 0).toNat a = 1 then top else ls.getD i 0 * bot) = loadTo bs ls a top bot (i + 1) := by
  refine List.ext_getElem (by rw [List.length_set, loadTo_len, loadTo_len]) fun t h1 h2 => ?_
  rw [List.getElem_set]
  by_cases e : i = t
  · subst e; rw [if_pos rfl]; simp [loadTo]
  · rw [if_neg e]
    simp only [loadTo, List.getElem_map, List.getElem_range]
    by_cases h3 : t < i
    · simp only [h3, show t < i + 1 from by omega, if_true]
    · rw [if_neg h3, if_neg (by omega)]
theorem nz_set (l : List Nat) (i x : Nat) : (nz l).set i (x : Int) = nz (l.set i x) := by unfold nz; rw [List.map_set]
theorem pc_zero_of : ∀ g : Fin 64, pc g.val = 0 → g.val = 0 := by decide +kernel
theorem weight_was (g s : Nat) (w : World) (hg : g < 64) (h : pc g = s) : Calls Try.prog 47 #[.int .i64 g] w fun e w' => e = .returned (.int .i64 s) ∧ w = w' := by
  subst h
  exact weight_any g w hg
theorem bit_was (g j s : Nat) (w : World) (hg : g < 64) (hj : j ≤ 6) (h : bitN g j = s) : Calls Try.prog 46 #[.int .i64 g, .int .i64 j] w fun e w' => e = .returned (.int .i64 s) ∧ w = w' := by
  subst h
  exact bit_any g j w hg hj
theorem bitI_was (x : Int) (j s : Nat) (w : World) (hg : 0 ≤ x ∧ x ≤ 63) (hj : j ≤ 6) (h : bitN x.toNat j = s) : Calls Try.prog 46 #[.int .i64 x, .int .i64 j] w fun e w' => e = .returned (.int .i64 s) ∧ w = w' := by
  subst h
  exact bitI_any x j w hg hj
theorem supp_was (a : Option Addr) (cap : Nat) (bs : List Int) (x g : Nat) (w : World) (hi : Ints w a bs) (h6 : bs.length ≤ 6) (hr : ∀ y ∈ bs, 0 ≤ y ∧ y ≤ 31) (hx : x ≤ 5) (h : grpN bs x = g) :
    Calls Try.prog 45 #[.slice a bs.length cap, .int .i64 x] w fun e w' => e = .returned (.int .i64 g) ∧ Below w.heap.size w w' := by
  subst h
  exact (supporters_any a cap bs x w hi h6 hr hx).mono fun e w' ⟨he, n, hw⟩ => ⟨he, by rw [hw]; exact belN _ _⟩
/-- what LoadedOf gives: names, loads, and the number that they are over -/
def LdE (w w' : World) (s : List Nat × List Nat × Nat) (e : Ending) : Prop :=
  ∃ v1 v2, e = .returned (.tuple #[v1, v2, .int .i64 (s.2.2 : Nat)]) ∧ Owns w' w.heap.size v1 (nz s.1) ∧ Owns w' w.heap.size v2 (nz s.2.1) ∧ (∀ g, v1.ownBlock = some g → v2.ownBlock ≠ some g) ∧ Below w.heap.size w w'

theorem lastFree_in {ns : List Nat} {c u : Nat} {a : Int} (h : lastFree ns c (u + 1) a) (hu : u ∈ ns) : lastFree ns c u a := by
  have key : ∀ x, u ≤ x → ¬ u + 1 ≤ x → x ∈ ns := fun x h1 h2 => by
    obtain rfl : x = u := by omega
    exact hu
  rcases h with ⟨e, h⟩ | ⟨b, e, h1, h2, h3, h⟩
  · exact .inl ⟨e, fun x h4 h5 => by
      by_cases h6 : u + 1 ≤ x
      · exact h x h6 h5
      · exact key x h4 h6⟩
  · exact .inr ⟨b, e, by omega, h2, h3, fun x h4 h5 => by
      by_cases h6 : u + 1 ≤ x
      · exact h x h6 h5
      · exact key x h4 h6⟩
theorem lastFree_new {ns : List Nat} {c u : Nat} (hu : ¬ u ∈ ns) (hc : u < c) : lastFree ns c u (u : Int) := .inr ⟨u, rfl, Nat.le_refl _, hc, hu, fun x h1 h2 => by omega⟩
theorem step_none {c : Nat} {bs : List Int} {ns ls : List Nat} {den : Nat} {r : Int × Nat × Nat} (h : scanL bs ls den ns c = r) (hn : r.1 < 0) : stepL c bs (ns, ls, den) = (ns ++ [freeN ns], ls, den) := by
  subst h
  unfold stepL
  simp only
  rw [if_pos hn]
theorem step_some {c : Nat} {bs : List Int} {ns ls : List Nat} {den q t b : Nat} (h : scanL bs ls den ns c = ((q : Int), t, b)) : stepL c bs (ns, ls, den) = (ns ++ [q], loadUp bs ls q t b, den * b) := by
  unfold stepL
  simp only
  rw [h, if_neg (by simp only; omega)]
  simp only [Int.toNat_natCast]
set_option maxHeartbeats 8000000 in
set_option maxRecDepth 100000 in
theorem loadsOf_any (m k : Nat) (a : Option Addr) (cap : Nat) (bs : List Int) (w : World) (hi : Ints w a bs) (hV : BalOk (m : Int) bs) (hk : k ≤ m) :
    Calls Try.prog 24 #[.int .i64 m, .slice a bs.length cap, .int .i64 k] w fun e w' => LdE w w' (runL m bs k) e := by
  obtain ⟨i0, hi0, hz0, hz1, hz2⟩ := info_parts info_int
  have HR := hide (bal_range hV)
  have hm5 : m ≤ 5 := by have := hV.1; omega
  have h6 : bs.length ≤ 6 := by have := hV.2.1; omega
  have h1 : 1 ≤ bs.length := by have := hV.2.1; omega
  have ho0 : Owns (w.alloc (.cells #[] 3)) w.heap.size (.slice (some ⟨w.heap.size, 0, none⟩) 0 0) [] := World.ownsRow_lit w #[] 0 (Nat.le_refl _) (by simp) rfl
  have BA := bel1 w (.cells #[] 3)
  clear hV
  go_enter Try.func24, Try.ntmps24
  go_wp2_with (at_make; refine wpList_make_full _ rfl _ _ 22 rfl w.heap.size 3 i0 (.int .i64 0) 1 Try.underlying22 hi0 hz0 hz1 _ _ _ _ bs.length rfl rfl (by omega) (by omega) ?b2 ?b3 (by simp) ?_)
  case b2 => rw [hz2]; omega
  case b3 => unfold maxLen; omega
  intro w0 hown0 hgrow0
  rw [madeInts] at hown0
  have B0 : Below w.heap.size w w0 := BA.grown hgrow0 (by simp) (fun k h => by cases h)
  have O0 := own_kept ho0 hgrow0 (fun k h => by cases h)
  have hs0 : w.heap.size + 2 ≤ w0.heap.size := (World.ownsRow.lt hown0 (w.heap.size + 1) rfl).2
  clear hgrow0 ho0 BA
  go_wp2
  go_loopw [9, 11, 12] (fun v9 d wk wr => ∃ j : Nat, j ≤ k ∧ d = .int .i64 ((runL m bs j).2.2 : Nat) ∧ wk = .int .i64 (maskN (runL m bs j).1 : Nat) ∧ Owns wr w.heap.size v9 (nz (runL m bs j).1) ∧ v9.ownBlock ≠ some (w.heap.size + 1) ∧ Owns wr w.heap.size (.slice (some ⟨w.heap.size + 1, 0, none⟩) bs.length bs.length) (nz (runL m bs j).2.1) ∧ Below w.heap.size w wr ∧ w.heap.size + 2 ≤ wr.heap.size) (fun v9 _ _ _ => k - lenW v9)
  case atStart => exact ⟨0, Nat.zero_le _, rfl, rfl, O0, by simp [Value.ownBlock], by
    have e : nz (runL m bs 0).2.1 = List.replicate bs.length 0 := nz_rep _ _
    unfold Owns
    rw [e, List.length_replicate]
    exact hown0, B0, hs0⟩
  case round =>
    clear hown0 B0 O0 hs0
    obtain ⟨j, hj, rfl, rfl, own9, hne9, own10, BR, hsz⟩ := hrel
    obtain ⟨wq, rfl⟩ : ∃ wq, wq = wr := ⟨_, rfl⟩
    have OK := run_ok (c := m) (bs := bs) h6 j (by omega)
    have HST := hide (show runL m bs (j + 1) = stepL m bs (runL m bs j) from rfl)
    obtain ⟨⟨ns, ls, den⟩, hst⟩ : ∃ s, runL m bs j = s := ⟨_, rfl⟩
    rw [hst] at own9 own10 OK HST ⊢
    have HSS := hide hst
    clear hst
    simp only at own9 own10 OK ⊢
    obtain ⟨hnl, hnd, hlt, hll, hd1, hd6, hlb⟩ := OK
    simp only at hnl hnd hlt hll hd1 hd6 hlb
    have hd7 : den ≤ 7776 := Nat.le_trans hd6 (pow6 j (by omega))
    have hlb2 : ∀ i, ls.getD i 0 ≤ 38880 := fun i => Nat.le_trans (hlb i) (Nat.mul_le_mul (show j ≤ 5 from by omega) hd7)
    have HLB := hide hlb2
    obtain ⟨hmk, hmb⟩ := mask_ok ns hnd (fun x hx => by have := hlt x hx; omega)
    have HMB := hide hmb
    obtain ⟨mk, hmk2⟩ : ∃ mk, mk = maskN ns := ⟨_, rfl⟩
    have HMK := hide hmk2
    rw [← hmk2] at hmk HMB ⊢
    have HNL := hide hnl
    have HLL := hide hll
    obtain ⟨av, cv, rfl, _, _⟩ := own9.form
    rw [nz_len, hnl] at own9 hne9 ⊢
    clear hmb hmk2 hd6 hlb hlb2 hlt hnd hnl hll
    by_cases hjk : j < k
    · have iol := hi.below BR
      have HI10 := hide own10.ints
      have HI0 := hide hi
      clear hi
      go_wp2
      go_loopw [13, 14, 15, 16] (fun at' t b x wr => ∃ y : Nat, y ≤ m ∧ x = .int .i64 y ∧ at' = .int .i64 (scanL bs ls den ns y).1 ∧ t = .int .i64 ((scanL bs ls den ns y).2.1 : Nat) ∧ b = .int .i64 ((scanL bs ls den ns y).2.2 : Nat) ∧ Below wq.heap.size wq wr) (fun _ _ _ x _ => m - (intOf x).toNat)
      case atStart => exact ⟨0, Nat.zero_le _, rfl, rfl, rfl, rfl, Below.refl _ _⟩
      case round =>
        obtain ⟨y, hy, rfl, rfl, rfl, rfl, BQ⟩ := hrel
        have hsm := scan_small (bs := bs) (ls := ls) (ns := ns) h6 hd7 HLB.out y
        obtain ⟨⟨ra, rt, rb⟩, hr⟩ : ∃ r, scanL bs ls den ns y = r := ⟨_, rfl⟩
        rw [hr] at hsm ⊢
        simp only at hsm ⊢
        obtain ⟨r1, r2, r3, r4, r5⟩ := hsm
        have HRR := hide hr
        have HYE := hide (@scanL_yes bs ls den ns y)
        have HNO := hide (@scanL_no bs ls den ns y)
        rw [hr] at HYE HNO
        clear hr
        have io2 := iol.below BQ
        have ib2 := HI10.out.below BQ
        by_cases hym : y < m
        · obtain ⟨hg1, hg2, hg3⟩ := grp_ok bs y bs.length h6
          have hg64 : grpK bs y bs.length < 64 := Nat.lt_of_lt_of_le hg1 (Nat.pow_le_pow_right (n := 2) (by omega) h6)
          have hsl := supN_le bs y
          obtain ⟨g, hg⟩ : ∃ g, g = grpN bs y := ⟨_, rfl⟩
          obtain ⟨sp, hsp⟩ : ∃ sp, sp = supN bs y := ⟨_, rfl⟩
          have HG := hide hg.symm
          have HSP := hide hsp
          have e1 : grpK bs y bs.length = g := hg.symm
          have e2 : supK bs y bs.length = sp := hsp.symm
          rw [e1] at hg2 hg3 hg64
          rw [e2] at hg2
          have HPC := hide hg2
          have HGB := hide hg3
          rw [← hsp] at hsl
          have HGZ : Hid (g = 0 → sp = 0) := hide (fun e => by have := hg2; rw [e] at this; exact this.symm)
          have HSZ : Hid (sp = 0 → g = 0) := hide (fun e => pc_zero_of ⟨g, hg64⟩ (by rw [e] at hg2; exact hg2))
          clear hg1 hg2 hg3 e1 e2 hg hsp
          by_cases hin : y ∈ ns
          · have HFN := hide (HNO.out (fits_in hin))
            have HBM := hide (show bitN mk y = 1 by rw [HMB.out y (by omega), if_pos hin])
            clear hin
            go_wp2_with (first
              | (go_at_call 45; refine (supp_was _ _ _ _ g _ io2 h6 HR.out (by omega) HG.out).mono ?_; rintro e w' ⟨rfl, hbs⟩)
              | (go_at_call 46; refine (bit_was mk y 1 _ (by omega) (by omega) HBM.out).mono ?_; rintro e w' ⟨rfl, rfl⟩))
            go_roundw
            case rel => exact ⟨y + 1, by omega, by go_num, by rw [HFN.out], by rw [HFN.out], by rw [HFN.out], bnext BQ hbs⟩
            case measure => simp only [intOf]; omega
          · have HBM := hide (show bitN mk y = 0 by rw [HMB.out y (by omega), if_neg hin])
            by_cases hz : sp = 0
            · have HFN := hide (HNO.out (fits_none (HSP.out.symm.trans hz)))
              have hg0 := HSZ.out hz
              subst hg0
              clear hin hz
              go_wp2_with (first
                | (go_at_call 45; refine (supp_was _ _ _ _ 0 _ io2 h6 HR.out (by omega) HG.out).mono ?_; rintro e w' ⟨rfl, hbs⟩)
                | (go_at_call 46; refine (bit_was mk y 0 _ (by omega) (by omega) HBM.out).mono ?_; rintro e w' ⟨rfl, rfl⟩))
              go_roundw
              case rel => exact ⟨y + 1, by omega, by go_num, by rw [HFN.out], by rw [HFN.out], by rw [HFN.out], bnext BQ hbs⟩
              case measure => simp only [intOf]; omega
            · have hgn : ¬ g = 0 := fun e => hz (HGZ.out e)
              have HIN := hide hin
              have HZ := hide (show supN bs y ≠ 0 from fun e => hz (HSP.out.trans e))
              clear hin
              go_wp2_with (first
                | (go_at_call 45; refine (supp_was _ _ _ _ g _ io2 h6 HR.out (by omega) HG.out).mono ?_; rintro e w' ⟨rfl, hbs⟩)
                | (go_at_call 46; refine (bit_was mk y 0 _ (by omega) (by omega) HBM.out).mono ?_; rintro e w' ⟨rfl, rfl⟩))
              have BS := bnext BQ hbs
              clear BQ hbs io2 ib2
              go_loopw [18, 19] (fun l i wr => ∃ t : Nat, t ≤ bs.length ∧ i = .int .i64 t ∧ l = .int .i64 (den + sumK bs ls y t : Nat) ∧ Below wq.heap.size wq wr) (fun _ i _ => bs.length - (intOf i).toNat)
              case atStart => exact ⟨0, Nat.zero_le _, rfl, by rw [show sumK bs ls y 0 = 0 from rfl, Nat.add_zero], BS⟩
              case round =>
                clear BS
                obtain ⟨t, ht, rfl, rfl, BT⟩ := hrel
                have hsk := small_facts (bs := bs) HLB.out y t (by omega)
                by_cases hlt : t < bs.length
                · obtain ⟨lb, lo, hle, hlb', hlc⟩ := (HI10.out.below BT) (by rw [nz_len, HLL.out]; omega)
                  cases hle
                  have hkk := hlc t (by rw [nz_len, HLL.out]; exact hlt)
                  rw [nz_getD, Nat.zero_add] at hkk
                  have hl0 := HLB.out t
                  have hst := hide (show sumK bs ls y (t + 1) = sumK bs ls y t + bitN (bs.getD t 0).toNat y * ls.getD t 0 from rfl)
                  have HBT := hide (show bitN g t = bitN (bs.getD t 0).toNat y by have := HGB.out t (by omega); rw [if_pos hlt] at this; exact this)
                  obtain ⟨lt, hlt2⟩ : ∃ lt, ls.getD t 0 = lt := ⟨_, rfl⟩
                  rw [hlt2] at hkk hl0 hst
                  clear hlc hlt2
                  rcases (show bitN (bs.getD t 0).toNat y = 0 ∨ bitN (bs.getD t 0).toNat y = 1 from by have := bitN_le (bs.getD t 0).toNat y; omega) with hb | hb
                  · rw [hb] at hst HBT
                    clear hb
                    go_wp2
                    go_quiet ((go_at_call 46; exact quiet_left (bit_was g t 0 _ (by omega) (by omega) HBT.out)))
                    go_wp2
                    go_roundw
                    case rel => exact ⟨t + 1, by omega, by go_num, by rw [hst.out]; go_num, BT.trans ((belN _ _).mono BT.size)⟩
                    case measure => simp only [intOf]; omega
                  · rw [hb] at hst HBT
                    clear hb
                    go_wp2
                    go_quiet ((go_at_call 46; exact quiet_left (bit_was g t 1 _ (by omega) (by omega) HBT.out)))
                    go_wp2
                    go_roundw
                    case rel => exact ⟨t + 1, by omega, by go_num, by rw [hst.out]; go_num, BT.trans ((belN _ _).mono BT.size)⟩
                    case measure => simp only [intOf]; omega
                · obtain rfl : t = bs.length := by omega
                  have HTP := hide (show den + sumK bs ls y bs.length = topN bs ls den y from rfl)
                  obtain ⟨L, hL⟩ : ∃ L, L = den + sumK bs ls y bs.length := ⟨_, rfl⟩
                  rw [← hL] at HTP ⊢
                  have hL2 : L ≤ 241056 := by omega
                  clear hL hsk
                  by_cases hneg : ra < 0
                  · have HFY := hide (HYE.out (fits_new HIN.out HZ.out hneg))
                    go_wp2_with (go_at_call 47; refine (weight_was g sp _ (by omega) HPC.out).mono ?_; rintro e w' ⟨rfl, rfl⟩)
                    go_roundw
                    case rel => exact ⟨y + 1, by omega, by go_num, by rw [HFY.out], by rw [HFY.out, ← HTP.out], by rw [HFY.out, ← HSP.out], BT⟩
                    case measure => simp only [intOf]; omega
                  · have HFL := hide (show fitsL bs ls den ns y (ra, rt, rb) = decide (topN bs ls den y * rb < rt * supN bs y) from fits_less HIN.out HZ.out hneg)
                    rw [← HTP.out, ← HSP.out] at HFL
                    obtain ⟨p1, p2⟩ := mul_small hL2 r4
                    obtain ⟨q1, q2⟩ := mul_small r3 (show sp ≤ 6 by omega)
                    have HP1 := hide p1
                    have HQ1 := hide q1
                    have p3 : 0 ≤ (L : Int) * (rb : Int) ∧ (L : Int) * (rb : Int) ≤ 1446336 := by rw [p1]; omega
                    have q3 : 0 ≤ (rt : Int) * (sp : Int) ∧ (rt : Int) * (sp : Int) ≤ 1446336 := by rw [q1]; omega
                    clear p1 q1 p2 q2
                    by_cases hless : (L : Int) * (rb : Int) < (rt : Int) * (sp : Int)
                    · have HFY := hide (HYE.out (by rw [HFL.out]; exact decide_eq_true (by have := hless; rw [HP1.out, HQ1.out] at this; omega)))
                      go_wp2_with (go_at_call 47; refine (weight_was g sp _ (by omega) HPC.out).mono ?_; rintro e w' ⟨rfl, rfl⟩)
                      go_roundw
                      case rel => exact ⟨y + 1, by omega, by go_num, by rw [HFY.out], by rw [HFY.out, ← HTP.out], by rw [HFY.out, ← HSP.out], BT⟩
                      case measure => simp only [intOf]; omega
                    · have HFN := hide (HNO.out (by rw [HFL.out]; exact decide_eq_false (by have := hless; rw [HP1.out, HQ1.out] at this; omega)))
                      go_wp2_with (go_at_call 47; refine (weight_was g sp _ (by omega) HPC.out).mono ?_; rintro e w' ⟨rfl, rfl⟩)
                      go_roundw
                      case rel => exact ⟨y + 1, by omega, by go_num, by rw [HFN.out], by rw [HFN.out], by rw [HFN.out], BT⟩
                      case measure => simp only [intOf]; omega
        · obtain rfl : y = m := by omega
          have HCA := hide (scanL_ok (bs := bs) (ls := ls) (den := den) (ns := ns) y)
          rw [HRR.out] at HCA
          by_cases hneg : ra < 0
          · have hra : ra = -1 := by omega
            subst hra
            have HRUN := hide (HST.out.trans (step_none HRR.out hneg))
            have HNLK : Hid (ns.length < y) := hide (by have := HNL.out; omega)
            clear hneg io2 ib2
            go_wp2
            go_loopw [13, 20] (fun at' x wr => ∃ t : Nat, ∃ A X : Int, t ≤ y ∧ x = .int .i64 X ∧ X = (t : Int) - 1 ∧ at' = .int .i64 A ∧ Hid (lastFree ns y t A) ∧ Below wq.heap.size wq wr) (fun _ x _ => (intOf x + 1).toNat)
            case atStart => exact ⟨y, -1, _, Nat.le_refl _, rfl, by omega, rfl, .inl ⟨rfl, fun x h1 h2 => by omega⟩, BQ⟩
            case round =>
              clear BQ
              obtain ⟨t, A, X, ht, rfl, hX, rfl, HLF, BQ⟩ := hrel
              by_cases ht0 : 0 < t
              · obtain ⟨u, rfl⟩ : ∃ u, t = u + 1 := ⟨t - 1, by omega⟩
                obtain rfl : X = (u : Int) := by omega
                clear hX
                by_cases hin : u ∈ ns
                · have HBM := hide (show bitN mk u = 1 by rw [HMB.out u (by omega), if_pos hin])
                  have HL2 := lastFree_in HLF.out hin
                  have HL3 := hide HL2
                  clear hin HL2
                  go_wp2_with (go_at_call 46; refine (bit_was mk u 1 _ (by omega) (by omega) HBM.out).mono ?_; rintro e w' ⟨rfl, rfl⟩)
                  go_roundw
                  case rel => exact ⟨u, A, _, by omega, rfl, by omega, rfl, HL3, BQ⟩
                  case measure => simp only [intOf]; omega
                · have HBM := hide (show bitN mk u = 0 by rw [HMB.out u (by omega), if_neg hin])
                  have HL3 := hide (lastFree_new (c := y) hin (by omega))
                  clear hin
                  go_wp2_with (go_at_call 46; refine (bit_was mk u 0 _ (by omega) (by omega) HBM.out).mono ?_; rintro e w' ⟨rfl, rfl⟩)
                  go_roundw
                  case rel => exact ⟨u, (u : Int), _, by omega, rfl, by omega, rfl, HL3, BQ⟩
                  case measure => simp only [intOf]; omega
              · obtain rfl : t = 0 := by omega
                obtain rfl : X = -1 := by omega
                have hA := lastFree_end HLF.out HNLK.out
                subst hA
                have hfl := free_le ns
                obtain ⟨q, hq⟩ : ∃ q, q = freeN ns := ⟨_, rfl⟩
                rw [← hq] at HRUN HLF hfl ⊢
                have hq5 : q < 5 := by have := HNL.out; omega
                have BW : Below w.heap.size w wr := BR.trans (BQ.mono BR.size)
                have hszr2 : w.heap.size + 2 ≤ wr.heap.size := Nat.le_trans hsz BQ.size
                clear hX hq hfl ht0
                have own9' : wr.ownsRow w.heap.size 3 1 (.slice av j cv) j ((nz ns).map (Value.int .i64)) := by
                  have h : wr.ownsRow w.heap.size 3 1 (.slice av j cv) (nz ns).length ((nz ns).map (Value.int .i64)) := by
                    have h2 := own9.below BQ
                    unfold Owns at h2
                    exact h2
                  rw [nz_len, HNL.out] at h
                  exact h
                have hszr := BW.size
                have hpw1 := pw_pos (q : Int)
                have hpw2 := pw_le6 (q : Int) (by omega)
                have HPN := hide (pw_nat q)
                go_wp2_with ((at_builtin; refine wpList_append_apart _ rfl _ _ 22 rfl w.heap.size 3 i0 (.int .i64 0) 1 8 Try.underlying22 hi0 hz0 hz1 hz2 rfl (by decide) _ j _ rfl (own9'.alloc _) ⟨wr.heap.size, 0, none⟩ 1 1 [.int .i64 q] rfl rfl (cell_one_new _ _ _) (by intro u hu; simp at hu; subst hu; rfl) (by decide) (by unfold maxLen; omega) (by omega) (by simp; omega) ?_))
                intro v' w2 hown2 hgrow hne2
                have hbel : Below w.heap.size w w2 := (BW.alloc hszr _).grown hgrow (by simp; omega) (fun j hj => (World.ownsRow.lt own9' j hj).1)
                have HPU : Hid (Owns w2 w.heap.size v' (nz (ns ++ [q]))) := by
                  unfold Hid
                  rw [nz_app]
                  exact Owns.push (by rw [nz_len, HNL.out]; exact hown2)
                have HO10 := hide (own_kept ((show Owns wr w.heap.size _ _ from own10.below BQ).below (bel1 wr _)) hgrow (fun k hk e => hne9 (by rw [show (Value.slice av j cv).ownBlock = some k from hk]; exact e.symm)))
                have HNE := hide (hne2 (w.heap.size + 1) (by simp; omega) hne9)
                have hs2 := hgrow.size
                simp only [World.size_alloc] at hs2
                obtain ⟨av2, cv2, hv2, _, _⟩ := HPU.out.form
                rw [nz_len, List.length_append, HNL.out] at hv2
                have HV2 := hide hv2
                clear hown2 hgrow own9' hne2 hv2
                go_wp2_with (go_at_call 48; refine (power_any _ _ (by omega) (by omega)).mono ?_; rintro e w' ⟨rfl, rfl⟩)
                go_roundw
                case rel => exact ⟨j + 1, by omega, by rw [HRUN.out], by
                  rw [HRUN.out, maskN_app, ← HMK.out, Int.natCast_add, ← HPN.out], by rw [HRUN.out]; exact HPU.out, HNE.out, by rw [HRUN.out]; exact HO10.out, hbel, by omega⟩
                case measure => rw [HV2.out]; simp only [lenW, List.length_cons, List.length_nil]; omega
          · obtain ⟨q, hq, hqm, hqn, hqs⟩ : ∃ q : Nat, (ra, rt, rb) = ((q : Int), topN bs ls den q, supN bs q) ∧ q < y ∧ ¬ q ∈ ns ∧ supN bs q ≠ 0 := by
              rcases HCA.out with ⟨e, _⟩ | ⟨q, e, h1, h2, h3⟩
              · simp only at e; omega
              · exact ⟨q, e, h1, h2, h3⟩
            obtain rfl : ra = (q : Int) := congrArg Prod.fst hq
            have HRUN := hide (HST.out.trans (step_some HRR.out))
            obtain ⟨p1, p2⟩ := mul_small hd7 r4
            have HP1 := hide p1
            have p3 : 0 ≤ (den : Int) * (rb : Int) ∧ (den : Int) * (rb : Int) ≤ 46656 := by rw [p1]; omega
            have HQ5 : q < 5 := by omega
            clear hq hqn hqs p1 p2 io2 ib2
            have O10 := own10.below BQ
            have O9 := own9.below BQ
            have BW0 : Below w.heap.size w wr := BR.trans (BQ.mono BR.size)
            have hszr0 : w.heap.size + 2 ≤ wr.heap.size := Nat.le_trans hsz BQ.size
            go_wp2
            go_loopw [21] (fun i wt => ∃ t : Nat, t ≤ bs.length ∧ i = .int .i64 t ∧ wt.ownsRow w.heap.size 3 1 (.slice (some ⟨w.heap.size + 1, 0, none⟩) bs.length bs.length) bs.length ((nz (loadTo bs ls q rt rb t)).map (Value.int .i64)) ∧ Owns wt w.heap.size (.slice av j cv) (nz ns) ∧ Below w.heap.size w wt ∧ w.heap.size + 2 ≤ wt.heap.size) (fun i _ => bs.length - (intOf i).toNat)
            case atStart => exact ⟨0, Nat.zero_le _, rfl, by
              rw [loadTo_zero HLL.out]
              have h := O10
              unfold Owns at h
              rw [nz_len, HLL.out] at h
              exact h, O9, BW0, hszr0⟩
            case round =>
              clear O10 O9 BW0 hszr0 BQ
              obtain ⟨t, ht, rfl, O10, O9, BW, hszr2⟩ := hrel
              by_cases hlt : t < bs.length
              · have hst := O10.cellAt t (by omega)
                rw [List.getElem?_map, List.getElem?_eq_getElem (by rw [nz_len, loadTo_len]; exact hlt), nz_get (by rw [loadTo_len]; exact hlt), loadTo_at hlt] at hst
                simp only [Option.map_some] at hst
                have hfz := O10.frozenAt t
                obtain ⟨lb, lo, rfl, hlb', hlc⟩ := HI0.out (by omega)
                have hkk := (BW.cell (p := ⟨lb, lo + t, none⟩) hlb').trans (hlc t hlt)
                have hrr := HR.out _ (mem_of_at hlt)
                rw [getD_lt hlt] at hkk
                have HSET := hide (@loadTo_set bs ls q rt rb t)
                rw [getD_lt hlt] at HSET
                have hl0 := HLB.out t
                obtain ⟨lt, hlt2⟩ : ∃ lt, ls.getD t 0 = lt := ⟨_, rfl⟩
                rw [hlt2] at hst hl0 HSET
                obtain ⟨z, hz⟩ : ∃ z, bs[t] = z := ⟨_, rfl⟩
                rw [hz] at hkk hrr HSET
                obtain ⟨u1, u2⟩ := mul_small hl0 r4
                have HU1 := hide u1
                have u3 : 0 ≤ (lt : Int) * (rb : Int) ∧ (lt : Int) * (rb : Int) ≤ 233280 := by rw [u1]; omega
                clear hlc hlt2 hz u1 u2
                have hlbw : ¬ lb = w.heap.size + 1 := by omega
                rcases (show bitN z.toNat q = 0 ∨ bitN z.toNat q = 1 from by have := bitN_le z.toNat q; omega) with hb | hb
                · rw [if_neg (by rw [hb]; decide)] at HSET
                  have HB := hide hb
                  clear hb
                  go_wp2_with (go_at_call 46; refine (bitI_was z q 0 _ (by omega) (by omega) HB.out).mono ?_; rintro e w' ⟨rfl, rfl⟩)
                  go_roundw
                  case rel => exact ⟨t + 1, by omega, by go_num, by
                    rw [← HSET.out, ← nz_set, List.map_set, ← HU1.out]
                    exact (O10.stored t _).1, ownsRow_setCell_other O9 hne9 _, BW.setCell (p := ⟨w.heap.size + 1, t, none⟩) (Nat.le_succ _) _, by simpa using hszr2⟩
                  case measure => simp only [intOf]; omega
                · rw [if_pos hb] at HSET
                  have HB := hide hb
                  clear hb
                  go_wp2_with (go_at_call 46; refine (bitI_was z q 1 _ (by omega) (by omega) HB.out).mono ?_; rintro e w' ⟨rfl, rfl⟩)
                  go_roundw
                  case rel => exact ⟨t + 1, by omega, by go_num, by
                    rw [← HSET.out, ← nz_set, List.map_set]
                    have h := ((O10.stored t (.int .i64 ((lt : Int) * (rb : Int)))).1.stored t (.int .i64 (rt : Int))).1
                    rw [List.set_set] at h
                    exact h, ownsRow_setCell_other (ownsRow_setCell_other O9 hne9 _) hne9 _, (BW.setCell (p := ⟨w.heap.size + 1, t, none⟩) (Nat.le_succ _) _).setCell (p := ⟨w.heap.size + 1, t, none⟩) (Nat.le_succ _) _, by simpa using hszr2⟩
                  case measure => simp only [intOf]; omega
              · obtain rfl : t = bs.length := by omega
                rw [loadTo_all] at O10
                have O10' : Owns wr w.heap.size (.slice (some ⟨w.heap.size + 1, 0, none⟩) bs.length bs.length) (nz (loadUp bs ls q rt rb)) := by
                  unfold Owns
                  rw [nz_len, loadUp_len]
                  exact O10
                clear O10
                have own9' : wr.ownsRow w.heap.size 3 1 (.slice av j cv) j ((nz ns).map (Value.int .i64)) := by
                  have h : wr.ownsRow w.heap.size 3 1 (.slice av j cv) (nz ns).length ((nz ns).map (Value.int .i64)) := by
                    have h2 := O9
                    unfold Owns at h2
                    exact h2
                  rw [nz_len, HNL.out] at h
                  exact h
                have hszr := BW.size
                have hpw1 := pw_pos (q : Int)
                have hpw2 := pw_le6 (q : Int) (by omega)
                have HPN := hide (pw_nat q)
                go_wp2_with ((at_builtin; refine wpList_append_apart _ rfl _ _ 22 rfl w.heap.size 3 i0 (.int .i64 0) 1 8 Try.underlying22 hi0 hz0 hz1 hz2 rfl (by decide) _ j _ rfl (own9'.alloc _) ⟨wr.heap.size, 0, none⟩ 1 1 [.int .i64 q] rfl rfl (cell_one_new _ _ _) (by intro u hu; simp at hu; subst hu; rfl) (by decide) (by unfold maxLen; omega) (by omega) (by simp; omega) ?_))
                intro v' w2 hown2 hgrow hne2
                have hbel : Below w.heap.size w w2 := (BW.alloc hszr _).grown hgrow (by simp; omega) (fun j hj => (World.ownsRow.lt own9' j hj).1)
                have HPU : Hid (Owns w2 w.heap.size v' (nz (ns ++ [q]))) := by
                  unfold Hid
                  rw [nz_app]
                  exact Owns.push (by rw [nz_len, HNL.out]; exact hown2)
                have HO10 := hide (own_kept ((show Owns wr w.heap.size _ _ from O10').below (bel1 wr _)) hgrow (fun k hk e => hne9 (by rw [show (Value.slice av j cv).ownBlock = some k from hk]; exact e.symm)))
                have HNE := hide (hne2 (w.heap.size + 1) (by simp; omega) hne9)
                have hs2 := hgrow.size
                simp only [World.size_alloc] at hs2
                obtain ⟨av2, cv2, hv2, _, _⟩ := HPU.out.form
                rw [nz_len, List.length_append, HNL.out] at hv2
                have HV2 := hide hv2
                clear hown2 hgrow own9' hne2 hv2
                go_wp2_with (go_at_call 48; refine (power_any _ _ (by omega) (by omega)).mono ?_; rintro e w' ⟨rfl, rfl⟩)
                go_roundw
                case rel => exact ⟨j + 1, by omega, by rw [HRUN.out]; exact congrArg _ HP1.out, by
                  rw [HRUN.out, maskN_app, ← HMK.out, Int.natCast_add, ← HPN.out], by rw [HRUN.out]; exact HPU.out, HNE.out, by rw [HRUN.out]; exact HO10.out, hbel, by omega⟩
                case measure => rw [HV2.out]; simp only [lenW, List.length_cons, List.length_nil]; omega
    · obtain rfl : j = k := by omega
      go_wp2
      go_ret3
      rw [HSS.out]
      exact ⟨.slice av j cv, .slice (some ⟨w.heap.size + 1, 0, none⟩) bs.length bs.length, rfl, own9, own10, fun g hg e => hne9 (by rw [hg]; exact e.symm), BR⟩
end Go.Proofs.Ythkikjidkehheaa
