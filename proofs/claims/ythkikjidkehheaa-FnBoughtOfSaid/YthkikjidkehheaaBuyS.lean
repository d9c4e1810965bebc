/- BoughtOf of the model. -/
import Derived.Test.YthkikjidkehheaaBuyM
import Derived.Test.YthkikjidkehheaaLoadS
namespace Go.Proofs.Ythkikjidkehheaa
open Go.RowKit Go.Joins

theorem sorted_was (a : Option Addr) (cap n : Nat) (ms so : List Nat) (w : World) (hi : Ints w a (nz ms)) (hn : ms.length = n) (h6 : n ≤ 6) (hb : ∀ i, ms.getD i 0 ≤ 100000) (hs : srtN ms = so) :
    Calls Try.prog 70 #[.slice a n cap] w fun e w' => ∃ v, e = .returned v ∧ Owns w' w.heap.size v (nz so) ∧ Below w.heap.size w w' := by
  subst hn hs
  exact sorted_any a cap ms w hi h6 hb
/-- what a price is told as -/
def PrE (o : Option (Nat × Nat)) (e : Ending) : Prop := (∃ a b, o = some (a, b) ∧ e = .returned (.tuple #[.int .i64 (a : Nat), .int .i64 (b : Nat), .bool true])) ∨ (o = none ∧ e = .returned (.tuple #[.int .i64 0, .int .i64 1, .bool false]))
set_option maxHeartbeats 4000000 in
theorem price_any (a : Option Addr) (cap n : Nat) (ms : List Nat) (cost : Nat) (w : World) (hi : Ints w a (nz ms)) (hn : ms.length = n) (h6 : n ≤ 6) (hb : ∀ i, ms.getD i 0 ≤ 100000) (hc : cost ≤ 100000) :
    Calls Try.prog 58 #[.slice a n cap, .int .i64 cost] w fun e w' => PrE (priceN ms cost) e ∧ Below w.heap.size w w' := by
  obtain ⟨so, hso⟩ : ∃ so, srtN ms = so := ⟨_, rfl⟩
  have hsl : so.length = n := by rw [← hso, srt_len, hn]
  have hbo : ∀ i, so.getD i 0 ≤ 100000 := all_getD (fun y hy => by
    rw [← hso] at hy
    obtain ⟨q, hq, e⟩ := List.getElem_of_mem (srt_mem _ hy)
    have h3 := hb q
    rw [List.getD_eq_getElem?_getD, List.getElem?_eq_getElem hq, Option.getD_some, e] at h3
    exact h3)
  have HP : Hid (priceN ms cost = priceL cost so) := by unfold Hid priceN; rw [hso]
  have HN := hide hn
  have HB := hide hb
  have HSO := hide hso
  have HSL := hide hsl
  have HBO := hide hbo
  clear hn hb hso hbo hsl
  go_enter Try.func58, Try.ntmps58
  go_wp2_with fail
  refine (sorted_was _ _ n ms so _ hi HN.out h6 HB.out HSO.out).mono ?_
  rintro e w1 ⟨v, rfl, own, hb1⟩
  obtain ⟨av, cv, rfl, is, _⟩ := own.form
  rw [nz_len, HSL.out]
  clear own
  go_wp2
  go_loop [8, 9] (fun l x => ∃ i lf : Nat, i ≤ n ∧ x = .int .i64 i ∧ l = .int .i64 lf ∧ lf ≤ cost ∧ Hid (priceL cost so = priceL lf (so.drop i))) (fun _ x => n - (intOf x).toNat)
  case atStart => exact ⟨0, cost, Nat.zero_le _, rfl, rfl, Nat.le_refl _, rfl⟩
  case round =>
    obtain ⟨i, lf, hin, rfl, rfl, hlf, HL⟩ := hrel
    by_cases hlt : i < n
    · obtain ⟨b, off, rfl, hbl, hcc⟩ := is (by rw [nz_len, HSL.out]; omega)
      have hck := hcc i (by rw [nz_len, HSL.out]; exact hlt)
      rw [nz_getD] at hck
      have hd := hide (priceL_drop (so := so) (i := i) (by rw [HSL.out]; exact hlt) lf)
      rw [HSL.out] at hd
      have hbk := HBO.out i
      obtain ⟨y, hy⟩ : ∃ y, so.getD i 0 = y := ⟨_, rfl⟩
      rw [hy] at hck hd hbk
      obtain ⟨q, hq⟩ : ∃ q : Nat, n - i = q := ⟨_, rfl⟩
      have hqi : (n : Int) - (i : Int) = (q : Int) := by omega
      have hq6 : q ≤ 6 := by omega
      rw [hq] at hd
      obtain ⟨p1, p2⟩ := mul_small hbk hq6
      have HP1 := hide p1
      have p3 : 0 ≤ (y : Int) * (q : Int) ∧ (y : Int) * (q : Int) ≤ 600000 := by rw [p1]; omega
      clear hcc hy hq p1 p2 is
      by_cases hge : lf ≤ y * q
      · have HS := hide (show priceN ms cost = some (lf, q) by rw [HP.out, HL.out, hd.out, if_pos hge])
        have hge' : (lf : Int) ≤ (y : Int) * (q : Int) := by rw [HP1.out]; omega
        clear hge
        go_wp2
        go_ret3
        exact ⟨.inl ⟨lf, q, HS.out, rfl⟩, hb1⟩
      · have hyl : y ≤ lf := by
          have : y * 1 ≤ y * q := Nat.mul_le_mul_left _ (by omega)
          omega
        have HS : Hid (priceL cost so = priceL (lf - y) (so.drop (i + 1))) := hide (by rw [HL.out, hd.out, if_neg hge])
        have hge' : ¬ (lf : Int) ≤ (y : Int) * (q : Int) := by rw [HP1.out]; omega
        clear hge
        go_wp2
        go_round
        case rel => exact ⟨i + 1, lf - y, by omega, by go_num, by go_num, by omega, HS.out⟩
        case measure => simp only [intOf]; omega
    · obtain rfl : n = i := by omega
      have HS := hide (show priceN ms cost = none by rw [HP.out, HL.out, List.drop_of_length_le (by rw [HSL.out]; exact Nat.le_refl _)]; rfl)
      go_wp2
      go_ret3
      exact ⟨.inr ⟨HS.out, rfl⟩, hb1⟩
/-- the purses while the first i of them are paid -/
def payTo (bs : List Int) (ps : List Nat) (a top bot i : Nat) : List Nat := (List.range bs.length).map fun t => if t < i then (if bitN (bs.getD t 0).toNat a = 1 then ps.getD t 0 * bot - top else ps.getD t 0 * bot) else ps.getD t 0
theorem payTo_len (bs : List Int) (ps : List Nat) (a top bot i : Nat) : (payTo bs ps a top bot i).length = bs.length := by simp [payTo]
theorem payTo_zero {bs : List Int} {ps : List Nat} (h : ps.length = bs.length) (a top bot : Nat) : payTo bs ps a top bot 0 = ps := by
  refine List.ext_getElem (by rw [payTo_len, h]) fun t h1 h2 => ?_
  simp [payTo, List.getD_eq_getElem?_getD, h2]
theorem payTo_all (bs : List Int) (ps : List Nat) (a top bot : Nat) : payTo bs ps a top bot bs.length = payUp bs ps a top bot := by
  unfold payTo payUp
  exact List.map_congr_left fun t ht => by rw [if_pos (by simpa using ht)]
theorem payTo_at {bs : List Int} {ps : List Nat} {a top bot i : Nat} (h : i < bs.length) : (payTo bs ps a top bot i)[i]'(by rw [payTo_len]; exact h) = ps.getD i 0 := by simp [payTo]
theorem payTo_set {bs : List Int} {ps : List Nat} {a top bot i : Nat} : (payTo bs ps a top bot i).set i (if bitN (bs.getD i 0).toNat a = 1 then ps.getD i 0 * bot - top else ps.getD i 0 * bot) = payTo bs ps a top bot (i + 1) := by
  refine List.ext_getElem (by rw [List.length_set, payTo_len, payTo_len]) fun t h1 h2 => ?_
  rw [List.getElem_set]
  by_cases e : i = t
  · subst e; rw [if_pos rfl]; simp [payTo]
  · rw [if_neg e]
    simp only [payTo, List.getElem_map, List.getElem_range]
    by_cases h3 : t < i
    · simp only [h3, show t < i + 1 from by omega, if_true]
    · rw [if_neg h3, if_neg (by omega)]
theorem scanB_small {bs : List Int} {ps : List Nat} {den : Nat} {ns : List Nat} (h6 : bs.length ≤ 6) (hd : den ≤ 7776) (x : Nat) :
    -1 ≤ (scanB (shB bs ps den) ns x).1 ∧ (scanB (shB bs ps den) ns x).1 < (x : Int) ∧ (scanB (shB bs ps den) ns x).2.1 ≤ 46656 ∧ (scanB (shB bs ps den) ns x).2.2 ≤ 6 ∧ 1 ≤ (scanB (shB bs ps den) ns x).2.2 := by
  rcases scanB_ok (sh := shB bs ps den) (ns := ns) x with ⟨_, e⟩ | ⟨q, a, b, e, h1, _, h3⟩
  · rw [e]; simp; omega
  · rw [e]
    have h4 := shB_in h3
    have := supN_le bs q
    have := Nat.mul_le_mul h6 hd
    simp only
    omega
theorem price_was (a : Option Addr) (cap n : Nat) (ms : List Nat) (cost : Nat) (o : Option (Nat × Nat)) (w : World) (hi : Ints w a (nz ms)) (hn : ms.length = n) (h6 : n ≤ 6) (hb : ∀ i, ms.getD i 0 ≤ 100000) (hc : cost ≤ 100000) (ho : priceN ms cost = o) :
    Calls Try.prog 58 #[.slice a n cap, .int .i64 cost] w fun e w' => PrE o e ∧ Below w.heap.size w w' := by
  subst ho
  exact price_any a cap n ms cost w hi hn h6 hb hc
set_option maxHeartbeats 8000000 in
set_option maxRecDepth 100000 in
theorem bought_any (m k : Nat) (a : Option Addr) (cap : Nat) (bs : List Int) (w : World) (hi : Ints w a bs) (hV : BalOk (m : Int) bs) (hk : k ≤ m) :
    Calls Try.prog 33 #[.int .i64 m, .slice a bs.length cap, .int .i64 k] w fun e w' => LdE w w' (runB m bs k (m + 1)) e := by
  obtain ⟨i0, hi0, hz0, hz1, hz2⟩ := info_parts info_int
  have HR := hide (bal_range hV)
  have hm5 : m ≤ 5 := by have := hV.1; omega
  have h6 : bs.length ≤ 6 := by have := hV.2.1; omega
  have h1 : 1 ≤ bs.length := by have := hV.2.1; omega
  have ho9 : Owns ((w.alloc (.cells #[] 3)).alloc (.cells #[] 3)) w.heap.size (.slice (some ⟨w.heap.size, 0, none⟩) 0 0) [] := World.ownsRow.alloc (World.ownsRow_lit w #[] 0 (Nat.le_refl _) (by simp) rfl) _
  have ho10 : Owns ((w.alloc (.cells #[] 3)).alloc (.cells #[] 3)) w.heap.size (.slice (some ⟨w.heap.size + 1, 0, none⟩) 0 0) [] := by
    have h := World.ownsRow_lit (base := w.heap.size) (e := 3) (size := 1) (w.alloc (.cells #[] 3)) #[] 0 (by simp) (by simp) rfl
    rw [World.size_alloc] at h
    exact h
  have BA := bel2 w (.cells #[] 3) (.cells #[] 3)
  have hsA : w.heap.size + 2 ≤ ((w.alloc (.cells #[] 3)).alloc (.cells #[] 3)).heap.size := by simp
  clear hV
  go_enter Try.func33, Try.ntmps33
  go_wp2_with fail
  go_loopw [10, 11] (fun v i wr => ∃ t : Nat, t ≤ bs.length ∧ i = .int .i64 t ∧ Owns wr w.heap.size v (nz (List.replicate t k)) ∧ v.ownBlock ≠ some w.heap.size ∧ Owns wr w.heap.size (.slice (some ⟨w.heap.size, 0, none⟩) 0 0) [] ∧ Below w.heap.size w wr ∧ w.heap.size + 2 ≤ wr.heap.size) (fun _ i _ => bs.length - (intOf i).toNat)
  case atStart => exact ⟨0, Nat.zero_le _, rfl, ho10, (by simp [Value.ownBlock]), ho9, BA, hsA⟩
  case round =>
    clear ho9 ho10 BA hsA
    obtain ⟨t, ht, rfl, own, hne, own9, BR, hsz⟩ := hrel
    by_cases hlt : t < bs.length
    · have own' : wr.ownsRow w.heap.size 3 1 u10 t ((nz (List.replicate t k)).map (Value.int .i64)) := row_of_owns own (by rw [nz_len, List.length_replicate])
      have hrep : nz (List.replicate (t + 1) k) = nz (List.replicate t k) ++ [(k : Int)] := by rw [List.replicate_succ', nz_app]
      have HREP := hide hrep
      have hszr := BR.size
      clear own hrep
      go_wp2_with ((at_builtin; refine wpList_append_apart _ rfl _ _ 22 rfl w.heap.size 3 i0 (.int .i64 0) 1 8 Try.underlying22 hi0 hz0 hz1 hz2 rfl (by decide) _ t _ rfl (own'.alloc _) ⟨wr.heap.size, 0, none⟩ 1 1 [.int .i64 k] rfl rfl (cell_one_new _ _ _) (by intro u hu; simp at hu; subst hu; rfl) (by decide) (by unfold maxLen; omega) (by omega) (by simp; omega) ?_))
      intro v' w2 hown2 hgrow hne2
      have hbel := hide ((BR.alloc hszr _).grown hgrow (by simp; omega) (fun j hj => (World.ownsRow.lt own' j hj).1))
      have HO9 := hide (own_kept (own9.below (bel1 wr _)) hgrow (fun q hq e => hne (by rw [hq]; exact e.symm)))
      have HNE := hide (hne2 w.heap.size (by omega) hne)
      have HOW : Hid (Owns w2 w.heap.size v' (nz (List.replicate (t + 1) k))) := by
        unfold Hid
        rw [HREP.out]
        exact Owns.push (by rw [nz_len, List.length_replicate]; exact hown2)
      have hs2 : w.heap.size + 2 ≤ w2.heap.size := by have := hgrow.size; first | omega | (rw [World.size_alloc] at this; omega)
      clear hown2 hgrow hne2 own' own9 BR
      go_wp2
      go_roundw
      case rel => exact ⟨t + 1, by omega, by go_num, HOW.out, HNE.out, HO9.out, hbel.out, hs2⟩
      case measure => simp only [intOf]; omega
    · obtain rfl : t = bs.length := by omega
      obtain ⟨gp, cp, hu⟩ := ownsRow_form (row_of_owns own (n := bs.length) (by rw [nz_len, List.length_replicate])) (by omega)
      subst hu
      have hgp := World.ownsRow.lt (row_of_owns own (n := bs.length) (by rw [nz_len, List.length_replicate])) gp rfl
      have hne0 : ¬ gp = w.heap.size := fun e => hne (by simp [Value.ownBlock, e])
      have O10 := own
      have O9 := own9
      have BW := BR
      have hszw := hsz
      clear hne own own9 BR hsz ht hlt
      go_wp2
      go_loopw [9, 12, 13] (fun v9 d wk wr => ∃ j : Nat, j ≤ m ∧ (runB m bs k j).1.length = j ∧ d = .int .i64 ((runB m bs k j).2.2 : Nat) ∧ wk = .int .i64 (maskN (runB m bs k j).1 : Nat) ∧ Owns wr w.heap.size v9 (nz (runB m bs k j).1) ∧ v9.ownBlock ≠ some gp ∧ Owns wr w.heap.size (.slice (some ⟨gp, 0, none⟩) bs.length cp) (nz (runB m bs k j).2.1) ∧ Below w.heap.size w wr ∧ gp < wr.heap.size) (fun v9 _ _ _ => m + 1 - lenW v9)
      case atStart => exact ⟨0, Nat.zero_le _, rfl, rfl, rfl, O9, (by simp [Value.ownBlock]; exact fun e => hne0 e.symm), O10, BW, hgp.2⟩
      case round =>
        have hgpw := hgp.1
        clear O10 BW O9 hszw hgp
        obtain ⟨j, hj, hjl, rfl, rfl, own9, hne9, own10, BR, hsz⟩ := hrel
        obtain ⟨wq, rfl⟩ : ∃ wq, wq = wr := ⟨_, rfl⟩
        have OK := runB_ok (c := m) (bs := bs) (k := k) h6 j
        have HST := hide (show runB m bs k (j + 1) = stepB m bs (runB m bs k j) from rfl)
        have HSTOP := hide (@runB_stop m bs k j)
        obtain ⟨⟨ns, ps, den⟩, hst⟩ : ∃ s, runB m bs k j = s := ⟨_, rfl⟩
        rw [hst] at own9 own10 OK HST HSTOP hjl ⊢
        have HSS := hide hst
        clear hst
        simp only at own9 own10 OK hjl ⊢
        obtain ⟨_, hnd, hlt, hll, hd1, hd6, hlb⟩ := OK
        simp only at hnd hlt hll hd1 hd6 hlb
        have hjm := nodup_most hnd hlt
        rw [hjl] at hd6 hjm
        have hd7 : den ≤ 7776 := Nat.le_trans hd6 (pow6 j (by omega))
        have hlb2 : ∀ i, ps.getD i 0 ≤ 38880 := fun i => Nat.le_trans (hlb i) (Nat.mul_le_mul (show k ≤ 5 from by omega) hd7)
        have HLB := hide hlb2
        obtain ⟨hmk, hmb⟩ := mask_ok ns hnd (fun x hx => by have := hlt x hx; omega)
        have HMB := hide hmb
        obtain ⟨mk, hmk2⟩ : ∃ mk, mk = maskN ns := ⟨_, rfl⟩
        have HMK := hide hmk2
        rw [← hmk2] at hmk HMB ⊢
        have HNL := hide hjl
        have HLL := hide hll
        have HND := hide hnd
        have HLT := hide hlt
        obtain ⟨av, cv, rfl, _, _⟩ := own9.form
        rw [nz_len, hjl] at own9 hne9 ⊢
        clear hmb hmk2 hd6 hlb hlb2 hlt hnd hjl hll
        have iol := hi.below BR
        have HI10 := hide own10.ints
        have HI0 := hide hi
        obtain ⟨p1, p2⟩ := mul_small h6 hd7
        have HP0 := hide p1
        have pc0 : 0 ≤ (bs.length : Int) * (den : Int) ∧ (bs.length : Int) * (den : Int) ≤ 46656 := by rw [p1]; omega
        clear hi p1 p2
        go_wp2
        go_loopw [14, 15, 16, 17] (fun at' t b x wr => ∃ y : Nat, y ≤ m ∧ x = .int .i64 y ∧ at' = .int .i64 (scanB (shB bs ps den) ns y).1 ∧ t = .int .i64 ((scanB (shB bs ps den) ns y).2.1 : Nat) ∧ b = .int .i64 ((scanB (shB bs ps den) ns y).2.2 : Nat) ∧ Below wq.heap.size wq wr) (fun _ _ _ x _ => m - (intOf x).toNat)
        case atStart => exact ⟨0, Nat.zero_le _, rfl, rfl, rfl, rfl, Below.refl _ _⟩
        case round =>
          obtain ⟨y, hy, rfl, rfl, rfl, rfl, BQ⟩ := hrel
          obtain ⟨wx, rfl⟩ : ∃ wx, wx = wr := ⟨_, rfl⟩
          have hsm := scanB_small (bs := bs) (ps := ps) (ns := ns) h6 hd7 y
          obtain ⟨⟨ra, rt, rb⟩, hr⟩ : ∃ r, scanB (shB bs ps den) ns y = r := ⟨_, rfl⟩
          rw [hr] at hsm ⊢
          simp only at hsm ⊢
          obtain ⟨r1, r2, r3, r4, r5⟩ := hsm
          have HRR := hide hr
          have HYE : Hid (∀ a b, takesB (shB bs ps den) ns y (scanB (shB bs ps den) ns y) = true → shB bs ps den y = some (a, b) → scanB (shB bs ps den) ns (y + 1) = ((y : Int), a, b)) := fun a b h hs => scanB_yes h hs
          have HNO := hide (@scanB_no (shB bs ps den) ns y)
          rw [hr] at HYE HNO
          clear hr
          by_cases hym : y < m
          · by_cases hin : y ∈ ns
            · have HFN := hide (HNO.out (takesB_in hin))
              have HBM := hide (show bitN mk y = 1 by rw [HMB.out y (by omega), if_pos hin])
              clear hin
              go_wp2_with (go_at_call 46; refine (bit_was mk y 1 _ (by omega) (by omega) HBM.out).mono ?_; rintro e w' ⟨rfl, rfl⟩)
              go_roundw
              case rel => exact ⟨y + 1, by omega, by go_num, by rw [HFN.out], by rw [HFN.out], by rw [HFN.out], BQ⟩
              case measure => simp only [intOf]; omega
            · have HBM := hide (show bitN mk y = 0 by rw [HMB.out y (by omega), if_neg hin])
              have HIN := hide hin
              have om0 : Owns (wx.alloc (.cells #[] 3)) wx.heap.size (.slice (some ⟨wx.heap.size, 0, none⟩) 0 0) [] := World.ownsRow_lit wx #[] 0 (Nat.le_refl _) (by simp) rfl
              have bm0 := bel1 wx (.cells #[] 3)
              clear hin
              go_wp2_with (go_at_call 46; refine (bit_was mk y 0 _ (by omega) (by omega) HBM.out).mono ?_; rintro e w' ⟨rfl, rfl⟩)
              go_loopw [18, 19] (fun v i wt => ∃ t : Nat, t ≤ bs.length ∧ i = .int .i64 t ∧ Owns wt wx.heap.size v (nz (mineK bs ps y t)) ∧ Below wx.heap.size wx wt) (fun _ i _ => bs.length - (intOf i).toNat)
              case atStart => exact ⟨0, Nat.zero_le _, rfl, om0, bm0⟩
              case round =>
                clear om0 bm0
                obtain ⟨t, ht, rfl, om, BT⟩ := hrel
                have hml := mineK_len bs ps y t
                have hms := supK_le bs y t
                rw [← hml] at hms
                have BQT := bnext BQ BT
                by_cases hlt : t < bs.length
                · obtain ⟨lb, lo, rfl, hlb', hlc⟩ := (iol.below BQT) (by omega)
                  have hkk := hlc t hlt
                  rw [getD_lt hlt] at hkk
                  have hrr := HR.out _ (mem_of_at hlt)
                  have HMY := hide (@mineK_yes bs ps y t)
                  have HMN := hide (@mineK_no bs ps y t)
                  rw [getD_lt hlt] at HMY HMN
                  obtain ⟨l2, o2, hle, hl2, hlc2⟩ := (HI10.out.below BQT) (by rw [nz_len, HLL.out]; omega)
                  cases hle
                  have hpp := hlc2 t (by rw [nz_len, HLL.out]; exact hlt)
                  rw [nz_getD, Nat.zero_add] at hpp
                  have hl0 := HLB.out t
                  obtain ⟨pt, hpt⟩ : ∃ pt, ps.getD t 0 = pt := ⟨_, rfl⟩
                  rw [hpt] at hpp hl0 HMY
                  obtain ⟨z, hz⟩ : ∃ z, bs[t] = z := ⟨_, rfl⟩
                  rw [hz] at hkk hrr HMY HMN
                  have HLCP := hide hpp
                  clear hlc hlc2 hpt hz
                  rcases (show bitN z.toNat y = 0 ∨ bitN z.toNat y = 1 from by have := bitN_le z.toNat y; omega) with hb | hb
                  · have HB := hide hb
                    have HS := hide (HMN.out (by rw [hb]; decide))
                    clear hb
                    go_wp2_with (go_at_call 46; refine (bitI_was z y 0 _ (by omega) (by omega) HB.out).mono ?_; rintro e w' ⟨rfl, rfl⟩)
                    go_roundw
                    case rel => exact ⟨t + 1, by omega, by go_num, by rw [HS.out]; exact om, BT⟩
                    case measure => simp only [intOf]; omega
                  · have HB := hide hb
                    have HS := hide (HMY.out hb)
                    have hszr := BT.size
                    obtain ⟨L, hL⟩ : ∃ L, (mineK bs ps y t).length = L := ⟨_, rfl⟩
                    have om' := row_of_owns om (n := L) (by rw [nz_len, hL])
                    have HL := hide hL
                    have hpp2 := (bel1 wr (.cells #[.int .i64 pt] 3)).cell (p := ⟨gp, t, none⟩) hl2
                    have hL6 : L ≤ 6 := by omega
                    clear hb om hL hml hms
                    go_wp2_with (first
                      | (go_at_call 46; refine (bitI_was z y 1 _ (by omega) (by omega) HB.out).mono ?_; rintro e w' ⟨rfl, rfl⟩)
                      | (at_builtin; refine wpList_append_own _ rfl _ _ 22 rfl wx.heap.size 3 i0 (.int .i64 0) 1 8 Try.underlying22 hi0 hz0 hz1 hz2 rfl (by decide) _ L _ rfl (om'.alloc _) ⟨wr.heap.size, 0, none⟩ 1 1 [.int .i64 pt] rfl rfl (cell_one_new _ _ _) (by intro u hu; simp at hu; subst hu; rfl) (by unfold maxLen; omega) (by omega) (by simp; omega) ?_))
                    intro v' w2 hown2 hgrow _
                    have hbel := hide ((BT.alloc hszr _).grown hgrow (by simp; omega) (fun q hq => (World.ownsRow.lt om' q hq).1))
                    have HOW : Hid (Owns w2 wx.heap.size v' (nz (mineK bs ps y (t + 1)))) := by
                      unfold Hid
                      rw [HS.out, nz_app]
                      exact Owns.push (by rw [nz_len, HL.out]; exact hown2)
                    clear hown2 hgrow om'
                    go_wp2
                    go_roundw
                    case rel => exact ⟨t + 1, by omega, by go_num, HOW.out, hbel.out⟩
                    case measure => simp only [intOf]; omega
                · obtain rfl : t = bs.length := by omega
                  have HSUP := hide (mineK_len bs ps y bs.length)
                  obtain ⟨o, ho⟩ : ∃ o, shB bs ps den y = o := ⟨_, rfl⟩
                  have HO := hide ho
                  have hin2 : ∀ a b, o = some (a, b) → a ≤ bs.length * den ∧ 1 ≤ b ∧ b ≤ supN bs y := fun a b e => shB_in (by rw [ho, e])
                  have HIN2 := hide hin2
                  have HPN : Hid (priceN (mineK bs ps y bs.length) (bs.length * den) = o) := ho
                  have HMB2 := hide (all_getD (mineK_in (B := 100000) (bs := bs) (x := y) (fun i => Nat.le_trans (HLB.out i) (by decide)) bs.length))
                  obtain ⟨L, hL⟩ : ∃ L, (mineK bs ps y bs.length).length = L := ⟨_, rfl⟩
                  have HL := hide hL
                  have hL6 : L ≤ 6 := by omega
                  obtain ⟨a18, c18, hu, i18, _⟩ := om.form
                  rw [nz_len, hL] at hu
                  subst hu
                  obtain ⟨cst, hcst⟩ : ∃ cst, bs.length * den = cst := ⟨_, rfl⟩
                  rw [hcst] at HPN HIN2
                  have hcm : (bs.length : Int) * (den : Int) = (cst : Int) := by rw [← hcst, Int.natCast_mul]
                  have hc2 : cst ≤ 46656 := by rw [← hcst]; exact Nat.mul_le_mul h6 hd7
                  have hsl := supN_le bs y
                  clear om hL hin2 ho hcst pc0 hml hms
                  go_wp2_with fail
                  refine (price_was _ _ L _ cst o _ i18 HL.out hL6 HMB2.out (by omega) HPN.out).mono ?_
                  rintro e w8 ⟨hpr, hb8⟩
                  have BQ8 := hide (bnext BQT hb8)
                  clear BQ BT BQT hb8 i18
                  rcases hpr with ⟨pa, pb, hop, rfl⟩ | ⟨hop, rfl⟩
                  · obtain ⟨q1, q2, q3⟩ := HIN2.out pa pb hop
                    have HOP := hide (HO.out.trans hop)
                    clear hop
                    by_cases hneg : ra < 0
                    · have HFY := hide (HYE.out pa pb (takesB_new HIN.out HOP.out hneg) HOP.out)
                      go_wp2
                      go_roundw
                      case rel => exact ⟨y + 1, by omega, by go_num, by rw [HFY.out], by rw [HFY.out], by rw [HFY.out], BQ8.out⟩
                      case measure => simp only [intOf]; omega
                    · have HFL := hide (show takesB (shB bs ps den) ns y (ra, rt, rb) = decide (pa * rb < rt * pb) from takesB_less HIN.out HOP.out hneg)
                      obtain ⟨p1, p2⟩ := mul_small (show pa ≤ 46656 by omega) r4
                      obtain ⟨s1, s2⟩ := mul_small r3 (show pb ≤ 6 by omega)
                      have HP1 := hide p1
                      have HQ1 := hide s1
                      have p3 : 0 ≤ (pa : Int) * (rb : Int) ∧ (pa : Int) * (rb : Int) ≤ 279936 := by rw [p1]; omega
                      have q3' : 0 ≤ (rt : Int) * (pb : Int) ∧ (rt : Int) * (pb : Int) ≤ 279936 := by rw [s1]; omega
                      clear p1 s1 p2 s2
                      by_cases hless : (pa : Int) * (rb : Int) < (rt : Int) * (pb : Int)
                      · have HFY := hide (HYE.out pa pb (by rw [HFL.out]; exact decide_eq_true (by have := hless; rw [HP1.out, HQ1.out] at this; omega)) HOP.out)
                        go_wp2
                        go_roundw
                        case rel => exact ⟨y + 1, by omega, by go_num, by rw [HFY.out], by rw [HFY.out], by rw [HFY.out], BQ8.out⟩
                        case measure => simp only [intOf]; omega
                      · have HFN := hide (HNO.out (by rw [HFL.out]; exact decide_eq_false (by have := hless; rw [HP1.out, HQ1.out] at this; omega)))
                        go_wp2
                        go_roundw
                        case rel => exact ⟨y + 1, by omega, by go_num, by rw [HFN.out], by rw [HFN.out], by rw [HFN.out], BQ8.out⟩
                        case measure => simp only [intOf]; omega
                  · have HFN := hide (HNO.out (takesB_none (HO.out.trans hop)))
                    clear hop
                    go_wp2
                    go_roundw
                    case rel => exact ⟨y + 1, by omega, by go_num, by rw [HFN.out], by rw [HFN.out], by rw [HFN.out], BQ8.out⟩
                    case measure => simp only [intOf]; omega
          · obtain rfl : y = m := by omega
            have HCA := hide (scanB_ok (sh := shB bs ps den) (ns := ns) y)
            rw [HRR.out] at HCA
            by_cases hneg : ra < 0
            · have HSTEP := stepB_none HRR.out hneg
              have HFIN : Hid (runB y bs k (y + 1) = (ns, ps, den)) := by
                have h := HSTOP.out HSTEP (y + 1 - j)
                rw [show j + (y + 1 - j) = y + 1 from by omega] at h
                exact h
              have O9 := own9.below BQ
              have O10 := own10.below BQ
              have BW : Below w.heap.size w wx := BR.trans (BQ.mono BR.size)
              clear HSTEP
              go_wp2
              go_ret3
              rw [HFIN.out]
              exact ⟨.slice av j cv, .slice (some ⟨gp, 0, none⟩) bs.length cp, rfl, O9, O10, fun g hg e => hne9 (by rw [hg]; exact e.symm), BW⟩
            · obtain ⟨q, hq, hqm, hqn, hs⟩ : ∃ q : Nat, (ra, rt, rb) = ((q : Int), rt, rb) ∧ q < y ∧ ¬ q ∈ ns ∧ shB bs ps den q = some (rt, rb) := by
                rcases HCA.out with ⟨e, _⟩ | ⟨q, a, b, e, h1, h2, h3⟩
                · simp only at e; omega
                · simp only [Prod.mk.injEq] at e
                  obtain ⟨e1, e2, e3⟩ := e
                  subst e2 e3
                  exact ⟨q, by rw [e1], h1, h2, h3⟩
              obtain rfl : ra = (q : Int) := congrArg Prod.fst hq
              have HRUN := hide (HST.out.trans (stepB_some HRR.out))
              have HQN := hide hqn
              obtain ⟨p1, p2⟩ := mul_small hd7 r4
              have HP1 := hide p1
              have p3 : 0 ≤ (den : Int) * (rb : Int) ∧ (den : Int) * (rb : Int) ≤ 46656 := by rw [p1]; omega
              have HQ5 : q < 5 := by omega
              clear hq hqn hs p1 p2 pc0
              have O10 := own10.below BQ
              have O9 := own9.below BQ
              have BW0 : Below w.heap.size w wx := BR.trans (BQ.mono BR.size)
              have hszr0 : gp < wx.heap.size := Nat.lt_of_lt_of_le hsz BQ.size
              go_wp2
              go_loopw [23] (fun i wt => ∃ t : Nat, t ≤ bs.length ∧ i = .int .i64 t ∧ wt.ownsRow w.heap.size 3 1 (.slice (some ⟨gp, 0, none⟩) bs.length cp) bs.length ((nz (payTo bs ps q rt rb t)).map (Value.int .i64)) ∧ Owns wt w.heap.size (.slice av j cv) (nz ns) ∧ Below w.heap.size w wt ∧ gp < wt.heap.size) (fun i _ => bs.length - (intOf i).toNat)
              case atStart => exact ⟨0, Nat.zero_le _, rfl, by
                rw [payTo_zero HLL.out]
                exact row_of_owns O10 (by rw [nz_len, HLL.out]), O9, BW0, hszr0⟩
              case round =>
                clear O10 O9 BW0 hszr0 BQ
                obtain ⟨t, ht, rfl, O10, O9, BW, hszr⟩ := hrel
                by_cases hlt : t < bs.length
                · have hst := O10.cellAt t (by omega)
                  rw [List.getElem?_map, List.getElem?_eq_getElem (by rw [nz_len, payTo_len]; exact hlt), nz_get (by rw [payTo_len]; exact hlt), payTo_at hlt] at hst
                  simp only [Option.map_some] at hst
                  have hfz := O10.frozenAt t
                  obtain ⟨lb, lo, rfl, hlb', hlc⟩ := HI0.out (by omega)
                  have hkk := (BW.cell (p := ⟨lb, lo + t, none⟩) hlb').trans (hlc t hlt)
                  have hrr := HR.out _ (mem_of_at hlt)
                  rw [getD_lt hlt] at hkk
                  have HSET := hide (@payTo_set bs ps q rt rb t)
                  rw [getD_lt hlt] at HSET
                  have hl0 := HLB.out t
                  obtain ⟨lt, hlt2⟩ : ∃ lt, ps.getD t 0 = lt := ⟨_, rfl⟩
                  rw [hlt2] at hst hl0 HSET
                  obtain ⟨z, hz⟩ : ∃ z, bs[t] = z := ⟨_, rfl⟩
                  rw [hz] at hkk hrr HSET
                  obtain ⟨u1, u2⟩ := mul_small hl0 r4
                  have HU1 := hide u1
                  obtain ⟨X, hX⟩ : ∃ X, lt * rb = X := ⟨_, rfl⟩
                  rw [hX] at HSET
                  have hXm : (lt : Int) * (rb : Int) = (X : Int) := by rw [u1, hX]
                  have hX2 : X ≤ 233280 := by rw [← hX]; exact u2
                  have hlbw : ¬ lb = gp := by omega
                  clear hlc hlt2 hz u1 u2 hX
                  rcases (show bitN z.toNat q = 0 ∨ bitN z.toNat q = 1 from by have := bitN_le z.toNat q; omega) with hb | hb
                  · rw [if_neg (by rw [hb]; decide)] at HSET
                    have HB := hide hb
                    clear hb
                    go_wp2_with (go_at_call 46; refine (bitI_was z q 0 _ (by omega) (by omega) HB.out).mono ?_; rintro e w' ⟨rfl, rfl⟩)
                    go_roundw
                    case rel => exact ⟨t + 1, by omega, by go_num, by
                      rw [← HSET.out, ← nz_set, List.map_set]
                      exact (O10.stored t _).1, ownsRow_setCell_other O9 hne9 _, BW.setCell (p := ⟨gp, t, none⟩) hgpw _, by simpa using hszr⟩
                    case measure => simp only [intOf]; omega
                  · rw [if_pos hb] at HSET
                    have HB := hide hb
                    clear hb
                    by_cases hle : X ≤ rt
                    · have HXZ : Hid (((X - rt : Nat) : Int) = 0) := by unfold Hid; omega
                      go_wp2_with (go_at_call 46; refine (bitI_was z q 1 _ (by omega) (by omega) HB.out).mono ?_; rintro e w' ⟨rfl, rfl⟩)
                      go_region
                      all_goals
                        go_wp2
                        go_roundw
                        case rel => exact ⟨t + 1, by omega, by go_num, by
                          rw [← HSET.out, ← nz_set, List.map_set, HXZ.out]
                          have h := ((O10.stored t (.int .i64 (X : Int))).1.stored t (.int .i64 0)).1
                          rw [List.set_set] at h
                          exact h, ownsRow_setCell_other (ownsRow_setCell_other O9 hne9 _) hne9 _, bdrew' ((BW.setCell (p := ⟨gp, t, none⟩) hgpw _).setCell (p := ⟨gp, t, none⟩) hgpw _), by simpa using hszr⟩
                        case measure => simp only [intOf]; omega
                    · have hgt : ¬ X ≤ rt := hle
                      have HXD : Hid (((X - rt : Nat) : Int) = (X : Int) - (rt : Int)) := by unfold Hid; omega
                      go_wp2_with (go_at_call 46; refine (bitI_was z q 1 _ (by omega) (by omega) HB.out).mono ?_; rintro e w' ⟨rfl, rfl⟩)
                      go_region
                      all_goals
                        go_wp2
                        go_roundw
                        case rel => exact ⟨t + 1, by omega, by go_num, by
                          rw [← HSET.out, ← nz_set, List.map_set, HXD.out]
                          have h := ((O10.stored t (.int .i64 (X : Int))).1.stored t (.int .i64 ((X : Int) - (rt : Int)))).1
                          rw [List.set_set] at h
                          exact h, ownsRow_setCell_other (ownsRow_setCell_other O9 hne9 _) hne9 _, bdrew' ((BW.setCell (p := ⟨gp, t, none⟩) hgpw _).setCell (p := ⟨gp, t, none⟩) hgpw _), by simpa using hszr⟩
                        case measure => simp only [intOf]; omega
                · obtain rfl : t = bs.length := by omega
                  rw [payTo_all] at O10
                  have O10' : Owns wr w.heap.size (.slice (some ⟨gp, 0, none⟩) bs.length cp) (nz (payUp bs ps q rt rb)) := owns_of_row O10 (by rw [nz_len, payUp_len])
                  clear O10
                  have own9' : wr.ownsRow w.heap.size 3 1 (.slice av j cv) j ((nz ns).map (Value.int .i64)) := row_of_owns O9 (by rw [nz_len, HNL.out])
                  have hszr := BW.size
                  have hpw1 := pw_pos (q : Int)
                  have hpw2 := pw_le6 (q : Int) (by omega)
                  have HPN := hide (pw_nat q)
                  go_wp2_with ((at_builtin; refine wpList_append_apart _ rfl _ _ 22 rfl w.heap.size 3 i0 (.int .i64 0) 1 8 Try.underlying22 hi0 hz0 hz1 hz2 rfl (by decide) _ j _ rfl (own9'.alloc _) ⟨wr.heap.size, 0, none⟩ 1 1 [.int .i64 q] rfl rfl (cell_one_new _ _ _) (by intro u hu; simp at hu; subst hu; rfl) (by decide) (by unfold maxLen; omega) (by omega) (by simp; omega) ?_))
                  intro v' w2 hown2 hgrow hne2
                  have hbel : Below w.heap.size w w2 := (BW.alloc hszr _).grown hgrow (by simp; omega) (fun j hj => (World.ownsRow.lt own9' j hj).1)
                  have HPU : Hid (Owns w2 w.heap.size v' (nz (ns ++ [q]))) := by
                    unfold Hid
                    rw [nz_app]
                    exact Owns.push (by rw [nz_len, HNL.out]; exact hown2)
                  have HO10 := hide (own_kept ((show Owns wr w.heap.size _ _ from O10').below (bel1 wr _)) hgrow (fun k hk e => hne9 (by rw [show (Value.slice av j cv).ownBlock = some k from hk]; exact e.symm)))
                  have HNE := hide (hne2 gp (by first | omega | (simp; omega)) hne9)
                  have hs2 : gp < w2.heap.size := by have := hgrow.size; first | omega | (rw [World.size_alloc] at this; omega)
                  obtain ⟨av2, cv2, hv2, _, _⟩ := HPU.out.form
                  rw [nz_len, List.length_append, HNL.out] at hv2
                  have HV2 := hide hv2
                  have HJM : Hid (j + 1 ≤ y) := by
                    have hd := nodup_most (c := y) (ns := ns ++ [q]) (List.nodup_append.2 ⟨HND.out, by simp, fun x hx y hy => by simp at hy; subst hy; intro e; subst e; exact HQN.out hx⟩) (fun x hx => by
                      rcases List.mem_append.1 hx with hx | hx
                      · exact HLT.out x hx
                      · simp at hx; omega)
                    rw [List.length_append, HNL.out] at hd
                    exact hd
                  clear hown2 hgrow own9' hne2 hv2
                  go_wp2_with (go_at_call 48; refine (power_any _ _ (by omega) (by omega)).mono ?_; rintro e w' ⟨rfl, rfl⟩)
                  go_roundw
                  case rel => exact ⟨j + 1, HJM.out, by rw [HRUN.out, List.length_append, HNL.out]; rfl, by rw [HRUN.out]; exact congrArg _ HP1.out, by
                    rw [HRUN.out, maskN_app, ← HMK.out, Int.natCast_add, ← HPN.out], by rw [HRUN.out]; exact HPU.out, HNE.out, by rw [HRUN.out]; exact HO10.out, hbel, hs2⟩
                  case measure => rw [HV2.out]; simp only [lenW, List.length_cons, List.length_nil]; have := HJM.out; omega
end Go.Proofs.Ythkikjidkehheaa
