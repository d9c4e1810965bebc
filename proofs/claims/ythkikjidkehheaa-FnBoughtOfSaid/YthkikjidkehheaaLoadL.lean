/- The name with the least shared load, in the program. -/
import Derived.Test.YthkikjidkehheaaPurC
import Derived.Test.YthkikjidkehheaaLoadS
namespace Go.Proofs.Ythkikjidkehheaa
open Go.RowKit Go.Joins

/-- the purses of the first k ballots, all over d -/
def pqK (bs : List Int) (ls : List Nat) (d k : Nat) : List Pur := (List.range k).map fun i => (((ls.getD i 0 : Nat) : Int), (d : Int), bs.getD i 0)
def pq (bs : List Int) (ls : List Nat) (d : Nat) : List Pur := pqK bs ls d bs.length
theorem pqK_succ (bs : List Int) (ls : List Nat) (d k : Nat) : pqK bs ls d (k + 1) = pqK bs ls d k ++ [(((ls.getD k 0 : Nat) : Int), (d : Int), bs.getD k 0)] := by
  unfold pqK
  rw [List.range_succ, List.map_append]
  rfl
theorem pq_len (bs : List Int) (ls : List Nat) (d : Nat) : (pq bs ls d).length = bs.length := by simp [pq, pqK]
theorem aboveK_pre (ps : List Pur) (p : Pur) : ∀ k, k ≤ ps.length → aboveK (ps ++ [p]) k = aboveK ps k
  | 0, _ => rfl
  | k + 1, h => by
    rw [aboveK, aboveK, aboveK_pre ps p k (by omega), List.getD_eq_getElem?_getD, List.getElem?_append_left (by omega), ← List.getD_eq_getElem?_getD]
theorem aboveK_app (ps : List Pur) (p : Pur) : aboveK (ps ++ [p]) (ps ++ [p]).length = aboveK ps ps.length + p.1 := by
  rw [List.length_append]
  show aboveK (ps ++ [p]) ps.length + ((ps ++ [p]).getD ps.length (0, 0, 0)).1 = _
  rw [aboveK_pre ps p _ (Nat.le_refl _)]
  simp [List.getD_eq_getElem?_getD]
theorem apq_yes {x : Nat} {p : Pur} (h : bitN p.2.2.toNat x = 1) : [p].filter (apQ x) = [p] := List.filter_cons_of_pos (decide_eq_true h)
theorem apq_no {x : Nat} {p : Pur} (h : ¬ bitN p.2.2.toNat x = 1) : [p].filter (apQ x) = [] := List.filter_cons_of_neg (by show ¬ (apQ x p = true); unfold apQ; rw [decide_eq_false h]; decide)
theorem appr_len (bs : List Int) (ls : List Nat) (d x : Nat) : ∀ k, ((pqK bs ls d k).filter (apQ x)).length = supK bs x k
  | 0 => rfl
  | k + 1 => by
    have h := appr_len bs ls d x k
    have hb := bitN_le (bs.getD k 0).toNat x
    rw [pqK_succ, List.filter_append, List.length_append, h, supK]
    by_cases e : bitN (bs.getD k 0).toNat x = 1
    · rw [apq_yes e, e]; rfl
    · have e0 : bitN (bs.getD k 0).toNat x = 0 := by omega
      rw [apq_no e, e0]; rfl
theorem appr_sum (bs : List Int) (ls : List Nat) (d x : Nat) : ∀ k, aboveK ((pqK bs ls d k).filter (apQ x)) ((pqK bs ls d k).filter (apQ x)).length = (sumK bs ls x k : Nat)
  | 0 => rfl
  | k + 1 => by
    have h := appr_sum bs ls d x k
    have hb := bitN_le (bs.getD k 0).toNat x
    rw [pqK_succ, List.filter_append, sumK]
    by_cases e : bitN (bs.getD k 0).toNat x = 1
    · rw [apq_yes e, aboveK_app, h, e, Nat.one_mul]
      omega
    · have e0 : bitN (bs.getD k 0).toNat x = 0 := by omega
      rw [apq_no e, List.append_nil, h, e0, Nat.zero_mul, Nat.add_zero]
theorem pq_mem {bs : List Int} {ls : List Nat} {d : Nat} {p : Pur} (hr : ∀ b ∈ bs, 0 ≤ b ∧ b ≤ 31) (hb : ∀ i, ls.getD i 0 ≤ 38880) (h : p ∈ pq bs ls d) : ((0 ≤ p.1 ∧ p.1 ≤ 38880) ∧ p.2.1 = d) ∧ 0 ≤ p.2.2 ∧ p.2.2 ≤ 31 := by
  unfold pq pqK at h
  rw [List.mem_map] at h
  obtain ⟨i, hi, rfl⟩ := h
  have hi' : i < bs.length := by simpa using hi
  have h1 := hb i
  have h2 := hr _ (List.getElem_mem hi')
  simp only
  rw [getD_lt hi']
  exact ⟨⟨⟨by omega, by omega⟩, trivial⟩, h2⟩
/-- how the program's scan stands beside the model's -/
def LsI (den : Nat) (r : Int × Nat × Nat) (F : Int) (found : Bool) (T B : Int) : Prop :=
  T = (r.2.1 : Nat) ∧ ((r.1 = -1 ∧ r = (-1, 0, 1) ∧ found = false ∧ F = 0 ∧ B = 0) ∨ (0 ≤ r.1 ∧ found = true ∧ F = r.1 ∧ B = ((r.2.2 * den : Nat) : Int)))
/-- what leastShare gives -/
def LsE (den : Nat) (r : Int × Nat × Nat) (e : Ending) : Prop := ∃ F found T B, LsI den r F found T B ∧ e = .returned (.tuple #[.int .i64 F, .agg #[.int .i64 T, .int .i64 B], .bool found])

theorem LsI.keep {den : Nat} {r r' : Int × Nat × Nat} {F : Int} {found : Bool} {T B : Int} (h : LsI den r F found T B) (e : r' = r) : LsI den r' F found T B := e ▸ h
theorem approving_was (x : Nat) (a : Option Addr) (cap : Nat) (ps fs : List Pur) (w : World) (hi : QInts w a ps) (h6 : ps.length ≤ 6) (hr : ∀ p ∈ ps, 0 ≤ p.2.2 ∧ p.2.2 ≤ 31) (hx : x ≤ 5) (hf : ps.filter (apQ x) = fs) :
    Calls Try.prog 54 #[.int .i64 x, .slice a ps.length cap] w fun e w' => (∃ v, e = .returned v ∧ OwnsQ w' w.heap.size v fs) ∧ Below w.heap.size w w' := by
  subst hf
  exact approvingOf_any x a cap ps w hi h6 hr hx
theorem shared_was (a : Option Addr) (cap n : Nat) (ps : List Pur) (d : Nat) (L D : Nat) (w : World) (hi : QInts w a ps) (hn : ps.length = n) (h0 : n ≠ 0) (h6 : ps.length ≤ 6) (hd : d ≤ 7776) (hr : ∀ p ∈ ps, (0 ≤ p.1 ∧ p.1 ≤ 38880) ∧ p.2.1 = d) (hL : (d : Int) + aboveK ps ps.length = L) (hD : n * d = D) :
    Calls Try.prog 29 #[.slice a n cap] w fun e w' => e = .returned (.tuple #[.agg #[.int .i64 L, .int .i64 D], .bool true]) ∧ Below w.heap.size w w' := by
  subst hn
  have h := sharedLoad_some a cap ps d w hi h0 h6 hd hr
  rw [hL, ← Int.natCast_mul, hD] at h
  exact h
theorem isLess_was (a b c d : Int) (r : Bool) (w : World) (h1 : 0 ≤ a * d ∧ a * d ≤ 1000000000000) (h2 : 0 ≤ c * b ∧ c * b ≤ 1000000000000) (h : decide (a * d < c * b) = r) :
    Calls Try.prog 55 #[.agg #[.int .i64 a, .int .i64 b], .agg #[.int .i64 c, .int .i64 d]] w fun e w' => e = .returned (.bool r) ∧ Below w.heap.size w w' := by
  subst h
  exact isLess_any a b c d w h1 h2
theorem less_same {L rb rt sp den : Nat} (hd : 1 ≤ den) : ((L : Int) * ((rb * den : Nat) : Int) < (rt : Int) * ((sp * den : Nat) : Int)) ↔ L * rb < rt * sp := by
  rw [← Int.natCast_mul, ← Int.natCast_mul, ← Nat.mul_assoc, ← Nat.mul_assoc]
  constructor
  · intro h
    have h2 : L * rb * den < rt * sp * den := by omega
    exact Nat.lt_of_mul_lt_mul_right h2
  · intro h
    have := (Nat.mul_lt_mul_right (show 0 < den from hd)).2 h
    omega
theorem prod_in {a b A B : Nat} (ha : a ≤ A) (hb : b ≤ B) (h : A * B ≤ 1000000000000) : 0 ≤ (a : Int) * (b : Int) ∧ (a : Int) * (b : Int) ≤ 1000000000000 := by
  have := Nat.mul_le_mul ha hb
  rw [← Int.natCast_mul]
  omega
set_option maxHeartbeats 1000000 in
set_option maxRecDepth 100000 in
theorem leastShareL_any (m : Nat) (a b : Option Addr) (ca cb : Nat) (bs : List Int) (ls ns : List Nat) (den : Nat) (w : World) (hm : m ≤ 5) (h6 : bs.length ≤ 6) (hr : ∀ b ∈ bs, 0 ≤ b ∧ b ≤ 31) (hd : den ≤ 7776) (hd1 : 1 ≤ den) (hb : ∀ i, ls.getD i 0 ≤ 38880)
    (hi : Ints w a (nz ns)) (hn : ns.length ≤ 5) (hq : QInts w b (pq bs ls den)) :
    Calls Try.prog 28 #[.int .i64 m, .slice a ns.length ca, .slice b bs.length cb, .func (.func 29) #[] #[]] w fun e w' => LsE den (scanL bs ls den ns m) e ∧ Below w.heap.size w w' := by
  have HR := hide hr
  have HLB := hide hb
  have HM := hide (fun (p : Pur) => @pq_mem bs ls den p hr hb)
  have HPL := hide (pq_len bs ls den)
  obtain ⟨PQ, hPQ⟩ : ∃ PQ, PQ = pq bs ls den := ⟨_, rfl⟩
  have HPQ := hide hPQ
  rw [← hPQ] at hq HPL
  obtain ⟨Z, hZ⟩ : ∃ Z, Z = nz ns := ⟨_, rfl⟩
  have HZ := hide hZ
  rw [← hZ] at hi
  have hzl : Z.length = ns.length := by rw [hZ, nz_len]
  have B2 := bel2 w (.cells #[.int .i64 0, .int .i64 0] 42) (.cells #[.int .i64 0, .int .i64 0] 42)
  have k9 := ((bel1 (w.alloc (.cells #[.int .i64 0, .int .i64 0] 42)) (.cells #[.int .i64 0, .int .i64 0] 42)).block w.heap.size (by simp)).trans (heap_alloc_new w (.cells #[.int .i64 0, .int .i64 0] 42))
  have k12 := heap_alloc_new (w.alloc (.cells #[.int .i64 0, .int .i64 0] 42)) (.cells #[.int .i64 0, .int .i64 0] 42)
  rw [World.size_alloc] at k12
  clear hr hb hPQ hZ
  rw [← hzl, ← HPL.out]
  have hz5 : Z.length ≤ 5 := by omega
  clear hzl hn
  go_enter Try.func28, Try.ntmps28
  go_wp2_with fail
  obtain ⟨W, hW⟩ : ∃ W : World, W = (w.alloc (.cells #[.int .i64 0, .int .i64 0] 42)).alloc (.cells #[.int .i64 0, .int .i64 0] 42) := ⟨_, rfl⟩
  rw [← hW] at B2 k9 k12 ⊢
  clear hW
  go_loopw [11, 13, 19] (fun f11 f13 i wr => ∃ x : Nat, ∃ F T B : Int, ∃ found : Bool, x ≤ m ∧ i = .int .i64 x ∧ f11 = .int .i64 F ∧ f13 = .bool found ∧ Hid (LsI den (scanL bs ls den ns x) F found T B) ∧ wr.heap[w.heap.size]? = some (.cells #[.int .i64 0, .int .i64 0] 42 (0, 0)) ∧ wr.heap[w.heap.size + 1]? = some (.cells #[.int .i64 T, .int .i64 B] 42 (0, 0)) ∧ Below w.heap.size w wr) (fun _ _ i _ => m - (intOf i).toNat)
  case atStart => exact ⟨0, 0, 0, 0, false, Nat.zero_le _, rfl, rfl, rfl, ⟨rfl, .inl ⟨rfl, rfl, rfl, rfl, rfl⟩⟩, k9, k12, B2⟩
  case round =>
    clear k9 k12 B2
    obtain ⟨x, F, T, B, found, hx, rfl, rfl, rfl, HI, k9, k12, BR⟩ := hrel
    have HYE := hide (@scanL_yes bs ls den ns x)
    have HNO := hide (@scanL_no bs ls den ns x)
    have hzi := hi.below BR
    have hqi := hq.below BR
    by_cases hxm : x < m
    · by_cases hin : x ∈ ns
      · have HFN := hide (HNO.out (fits_in hin))
        have hin' : Hid (decide (((x : Nat) : Int) ∈ Z) = true) := by rw [HZ.out]; exact decide_eq_true (nz_mem.2 hin)
        clear hin
        go_wp2_with (go_at_call 53; refine (contains_was _ _ _ _ _ _ hzi (by omega) hin'.out).mono ?_; rintro e w1 ⟨rfl, hb1⟩)
        have k9' := (hb1.block _ (lt_of_block k9)).trans k9
        have k12' := (hb1.block _ (lt_of_block k12)).trans k12
        go_wp2
        go_roundw
        case rel => exact ⟨x + 1, F, T, B, found, by omega, by go_num, rfl, rfl, HI.out.keep HFN.out, k9', k12', bnext BR hb1⟩
        case measure => simp only [intOf]; omega
      · have hin' : Hid (decide (((x : Nat) : Int) ∈ Z) = false) := by rw [HZ.out]; exact decide_eq_false (fun h => hin (nz_mem.1 h))
        have HIN := hide hin
        clear hin
        obtain ⟨fs, hfs⟩ : ∃ fs, PQ.filter (apQ x) = fs := ⟨_, rfl⟩
        have hfl : fs.length = supN bs x := by rw [← hfs, HPQ.out]; exact appr_len bs ls den x bs.length
        have hfsum : aboveK fs fs.length = (sumN bs ls x : Nat) := by rw [← hfs, HPQ.out]; exact appr_sum bs ls den x bs.length
        have HFM : Hid (∀ p ∈ fs, (0 ≤ p.1 ∧ p.1 ≤ 38880) ∧ p.2.1 = den) := fun p hp => (HM.out p (by rw [← HPQ.out]; rw [← hfs] at hp; exact (List.mem_filter.1 hp).1)).1
        have HFS := hide hfs
        have HFSUM := hide hfsum
        have HFL := hide hfl
        have hsl := supN_le bs x
        clear hfs hfsum hfl
        go_wp2_with (first
          | (go_at_call 53; refine (contains_was _ _ _ _ _ _ hzi (by omega) hin'.out).mono ?_; rintro e w1 ⟨rfl, hb1⟩))
        have BR1 := bnext BR hb1
        refine (approving_was x _ _ PQ fs _ (hq.below BR1) (by rw [HPL.out]; exact h6) (fun p hp => (HM.out p (by rw [← HPQ.out]; exact hp)).2) (by omega) HFS.out).mono ?_
        rintro e w2 ⟨⟨v, rfl, ov⟩, hb2⟩
        obtain ⟨av, cv, rfl, qi⟩ := ov.form
        have BR2 := bnext BR1 hb2
        have k9b := (hb2.block _ (lt_of_block ((hb1.block _ (lt_of_block k9)).trans k9))).trans ((hb1.block _ (lt_of_block k9)).trans k9)
        have k12b := (hb2.block _ (lt_of_block ((hb1.block _ (lt_of_block k12)).trans k12))).trans ((hb1.block _ (lt_of_block k12)).trans k12)
        obtain ⟨sp, hsp⟩ : ∃ sp, fs.length = sp := ⟨_, rfl⟩
        have HSP := hide hsp
        have hsup : supN bs x = sp := by rw [← HFL.out, hsp]
        rw [hsup] at hsl
        have HSUP := hide hsup
        rw [hsp]
        clear hsp hsup k9 k12 ov hb1 hb2 BR BR1 hzi hqi
        by_cases hz : sp = 0
        · subst hz
          have HFN := hide (HNO.out (fits_none HSUP.out))
          go_wp2_with fail
          refine (sharedLoad_none _ _ _).mono ?_
          rintro e w3 ⟨rfl, hb3⟩
          have k9c := (hb3.block _ (lt_of_block k9b)).trans k9b
          have k12c := (hb3.block _ (lt_of_block k12b)).trans k12b
          have bb := bel1 w3 (.cells #[.int .i64 0, .int .i64 0] 42)
          have BR4 := bnext (bnext BR2 hb3) bb
          have k9d := (bb.block _ (lt_of_block k9c)).trans k9c
          have k12d := (bb.block _ (lt_of_block k12c)).trans k12c
          have HR4 := hide (And.intro BR4 (And.intro k9d k12d))
          clear k9b k12b k9c k12c BR2 bb BR4 k9d k12d hb3
          go_wp2
          go_roundw
          case rel => exact ⟨x + 1, F, T, B, found, by omega, by go_num, rfl, rfl, HI.out.keep HFN.out, HR4.out.2.1, HR4.out.2.2, HR4.out.1⟩
          case measure => simp only [intOf]; omega
        · obtain ⟨L, hL⟩ : ∃ L, L = topN bs ls den x := ⟨_, rfl⟩
          have HL := hide hL
          have hL2 : L ≤ 241056 := by
            have := small_facts (bs := bs) HLB.out x bs.length h6
            rw [hL]; unfold topN sumN; omega
          obtain ⟨D, hD⟩ : ∃ D, sp * den = D := ⟨_, rfl⟩
          have hD2 : D ≤ 46656 := by rw [← hD]; exact Nat.mul_le_mul (show sp ≤ 6 by omega) hd
          have HD := hide hD
          have HZ0 := hide hz
          clear hL hD hz
          go_wp2_with fail
          refine (shared_was _ _ sp fs den L D _ qi HSP.out HZ0.out (by have := HSP.out; omega) hd HFM.out (by rw [HFSUM.out, HL.out]; unfold topN; omega) HD.out).mono ?_
          rintro e w3 ⟨rfl, hb3⟩
          have k9c := (hb3.block _ (lt_of_block k9b)).trans k9b
          have k12c := (hb3.block _ (lt_of_block k12b)).trans k12b
          have bb := bel1 w3 (.cells #[.int .i64 L, .int .i64 D] 42)
          have BR4 := bnext (bnext BR2 hb3) bb
          have k9d := (bb.block _ (lt_of_block k9c)).trans k9c
          have k12d := (bb.block _ (lt_of_block k12c)).trans k12c
          have k15d := heap_alloc_new w3 (.cells #[.int .i64 L, .int .i64 D] 42)
          have hg : w.heap.size + 2 ≤ w3.heap.size := by have := lt_of_block k12c; omega
          clear k9b k12b k9c k12c BR2 bb hb3 qi
          go_upto_region 7 with fail
          obtain ⟨W4, hW4⟩ : ∃ W4 : World, W4 = w3.alloc (.cells #[.int .i64 L, .int .i64 D] 42) := ⟨_, rfl⟩
          obtain ⟨g15, hg15⟩ : ∃ g, g = w3.heap.size := ⟨_, rfl⟩
          rw [← hW4, ← hg15] at k15d
          rw [← hW4] at BR4 k9d k12d
          rw [← hg15] at hg
          rw [← hW4, ← hg15]
          clear hW4 hg15
          have u0 := cell_of_block k15d 0
          have u1 := cell_of_block k15d 1
          have h0 := cell_of_block k12d 0
          have h1 := cell_of_block k12d 1
          have f0 := unfrozen_of_block k12d 0
          have f1 := unfrozen_of_block k12d 1
          have HK9 := hide k9d
          have HK12 := hide k12d
          have hne1 : ¬ g15 = w.heap.size + 1 := by omega
          have hne2 : ¬ w.heap.size + 1 = g15 := by omega
          have hne3 : ¬ w.heap.size = w.heap.size + 1 := by omega
          obtain ⟨hT, hcase⟩ := HI.out
          have hsm := scan_small (bs := bs) (ls := ls) (ns := ns) h6 hd HLB.out x
          obtain ⟨⟨ra, rt, rb⟩, hr⟩ : ∃ r, scanL bs ls den ns x = r := ⟨_, rfl⟩
          rw [hr] at hsm hT hcase
          simp only at hsm hT
          have HRR := hide hr
          rcases hcase with ⟨c1, c2, c3, c4, c5⟩ | ⟨c1, c2, c3, c5⟩
          · simp only at c1
            subst c3 c4 c5 hT
            have HFY := hide (HYE.out (by rw [hr]; exact fits_new HIN.out (by rw [HSUP.out]; exact HZ0.out) (by rw [c1]; exact Int.negSucc_lt_zero 0)))
            clear hr c1 c2 hsm
            go_wp2
            go_region
            all_goals
              go_wp2
              go_roundw
              case rel => exact ⟨x + 1, (x : Int), (L : Int), (D : Int), true, by omega, by go_num, rfl, rfl, by
                rw [HFY.out]
                exact ⟨by rw [HL.out], .inr ⟨Int.natCast_nonneg _, rfl, rfl, by rw [HSUP.out, HD.out]⟩⟩, (heap_setCell_other _ _ _ _ hne3).trans ((heap_setCell_other _ _ _ _ hne3).trans HK9.out), block_setCell (i := 1) (block_setCell (i := 0) HK12.out _) _, bdrew' ((BR4.setCell (p := ⟨w.heap.size + 1, 0, none⟩) (Nat.le_succ _) _).setCell (p := ⟨w.heap.size + 1, 1, none⟩) (Nat.le_succ _) _)⟩
              case measure => simp only [intOf]; omega
          · simp only at c1 c3 c5
            subst c2 c3 c5 hT
            obtain ⟨Bn, hBn⟩ : ∃ Bn, rb * den = Bn := ⟨_, rfl⟩
            have hB2 : Bn ≤ 46656 := by rw [← hBn]; exact Nat.mul_le_mul hsm.2.2.2.1 hd
            have HFL2 := hide (show fitsL bs ls den ns x (F, rt, rb) = decide (topN bs ls den x * rb < rt * supN bs x) from fits_less HIN.out (by rw [HSUP.out]; exact HZ0.out) (by simp only; omega))
            rw [← HL.out, HSUP.out] at HFL2
            have HLS := hide (less_same (L := L) (rb := rb) (rt := rt) (sp := sp) hd1)
            rw [hBn, HD.out] at HLS
            have p1 := hide (prod_in hL2 hB2 (by decide))
            have p2 := hide (prod_in hsm.2.2.1 hD2 (by decide))
            rw [hBn] at h0 h1 HK12 k12d
            have HBN := hide hBn
            have HRA := hide c1
            have hsm3 := hsm.2.2.1
            clear hBn hsm c1
            by_cases hless : L * rb < rt * sp
            · have HDC : Hid (decide ((L : Int) * (Bn : Int) < (rt : Int) * (D : Int)) = true) := decide_eq_true (HLS.out.2 hless)
              have HFY := hide (HYE.out (by rw [HRR.out, HFL2.out]; exact decide_eq_true hless))
              clear hless hr
              go_wp2_with (go_at_call 55; refine (isLess_was _ _ _ _ _ _ p1.out p2.out HDC.out).mono ?_; rintro e w5 ⟨rfl, hb5⟩)
              have h0b := (hb5.cell (p := ⟨w.heap.size + 1, 0, none⟩) (lt_of_block HK12.out)).trans h0
              have h1b := (hb5.cell (p := ⟨w.heap.size + 1, 1, none⟩) (lt_of_block HK12.out)).trans h1
              have f0b := (hb5.frozen (p := ⟨w.heap.size + 1, 0, none⟩) (lt_of_block HK12.out)).trans f0
              have f1b := (hb5.frozen (p := ⟨w.heap.size + 1, 1, none⟩) (lt_of_block HK12.out)).trans f1
              have u0b := (hb5.cell (p := ⟨g15, 0, none⟩) (lt_of_block k15d)).trans u0
              have u1b := (hb5.cell (p := ⟨g15, 1, none⟩) (lt_of_block k15d)).trans u1
              have HK9b := hide ((hb5.block _ (lt_of_block HK9.out)).trans HK9.out)
              have HK12b := hide ((hb5.block _ (lt_of_block HK12.out)).trans HK12.out)
              have BR5 := bnext BR4 hb5
              clear h0 h1 f0 f1 u0 u1 k12d k15d hb5 k9d
              go_wp2
              go_region
              all_goals
                go_wp2
                go_roundw
                case rel => exact ⟨x + 1, (x : Int), (L : Int), (D : Int), true, by omega, by go_num, rfl, rfl, by
                  rw [HFY.out]
                  exact ⟨by rw [HL.out], .inr ⟨Int.natCast_nonneg _, rfl, rfl, by rw [HSUP.out, HD.out]⟩⟩, (heap_setCell_other _ _ _ _ hne3).trans ((heap_setCell_other _ _ _ _ hne3).trans HK9b.out), block_setCell (i := 1) (block_setCell (i := 0) HK12b.out _) _, bdrew' ((BR5.setCell (p := ⟨w.heap.size + 1, 0, none⟩) (Nat.le_succ _) _).setCell (p := ⟨w.heap.size + 1, 1, none⟩) (Nat.le_succ _) _)⟩
                case measure => simp only [intOf]; omega
            · have HDC : Hid (decide ((L : Int) * (Bn : Int) < (rt : Int) * (D : Int)) = false) := decide_eq_false (fun h => hless (HLS.out.1 h))
              have HFN := hide (HNO.out (by rw [HRR.out, HFL2.out]; exact decide_eq_false hless))
              clear hless hr
              go_wp2_with (go_at_call 55; refine (isLess_was _ _ _ _ _ _ p1.out p2.out HDC.out).mono ?_; rintro e w5 ⟨rfl, hb5⟩)
              go_roundw
              case rel => exact ⟨x + 1, F, (rt : Int), (Bn : Int), true, by omega, by go_num, rfl, rfl, by
                rw [HFN.out, HRR.out]
                exact ⟨rfl, .inr ⟨HRA.out, rfl, rfl, by rw [HBN.out]⟩⟩, (hb5.block _ (lt_of_block HK9.out)).trans HK9.out, (hb5.block _ (lt_of_block HK12.out)).trans HK12.out, bnext BR4 hb5⟩
              case measure => simp only [intOf]; omega
    · obtain rfl : x = m := by omega
      have f0 := unfrozen_of_block k9 0
      have f1 := unfrozen_of_block k9 1
      have g0 := cell_of_block k9 0
      have g1 := cell_of_block k9 1
      have h0 := cell_of_block k12 0
      have h1 := cell_of_block k12 1
      have hne : ¬ w.heap.size + 1 = w.heap.size := by omega
      have HK := hide k9
      go_wp2
      go_region
      all_goals
        go_wp2
        refine bodyPost_ret (ret_least rfl _ _ _ _ _ rfl (block_setCell (i := 1) (block_setCell (i := 0) HK.out _) _)) rfl ?_
        exact ⟨⟨F, found, T, B, HI.out, rfl⟩, bdrew' ((BR.setCell (p := ⟨w.heap.size, 0, none⟩) (Nat.le_refl _) _).setCell (p := ⟨w.heap.size, 1, none⟩) (Nat.le_refl _) _)⟩
end Go.Proofs.Ythkikjidkehheaa
