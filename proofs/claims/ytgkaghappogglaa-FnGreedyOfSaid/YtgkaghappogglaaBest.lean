/- BestOf in the model and in the program. -/
import Derived.Test.YtgkaghappogglaaScoreOf
import Derived.Test.YtgkaghappogglaaSeat
import Derived.Deep.RegionHeld3
namespace Go.Proofs.Ytgkaghappogglaa
open Go.RowKit Go.Joins

/-- the greatest value among the first k of a list; -1 of none -/
def mxI (f : Int → Nat) (zs : List Int) : Nat → Int
  | 0 => -1
  | k + 1 => max (mxI f zs k) (f (zs.getD k 0))
/-- the greatest value among the first k of a list; 0 of none -/
def mxN (f : Int → Nat) (zs : List Int) : Nat → Nat
  | 0 => 0
  | k + 1 => max (mxN f zs k) (f (zs.getD k 0))
theorem mxI_pos (f : Int → Nat) (zs : List Int) : ∀ k, 0 < k → mxI f zs k = mxN f zs k
  | 0, h => by omega
  | 1, _ => by show max (-1 : Int) (f (zs.getD 0 0)) = ((max 0 (f (zs.getD 0 0)) : Nat) : Int); omega
  | k + 2, _ => by
    have ih := mxI_pos f zs (k + 1) (by omega)
    show max (mxI f zs (k + 1)) _ = ((max (mxN f zs (k + 1)) _ : Nat) : Int)
    rw [ih]; omega
theorem mxI_ge (f : Int → Nat) (zs : List Int) : ∀ k, ∀ j, j < k → (f (zs.getD j 0) : Int) ≤ mxI f zs k
  | 0, j, h => by omega
  | k + 1, j, h => by
    show _ ≤ max (mxI f zs k) (f (zs.getD k 0) : Int)
    rcases Nat.lt_or_ge j k with h1 | h1
    · have := mxI_ge f zs k j h1; omega
    · obtain rfl : j = k := by omega
      omega
theorem mxI_lo (f : Int → Nat) (zs : List Int) : ∀ k, -1 ≤ mxI f zs k
  | 0 => Int.le_refl _
  | k + 1 => by have := mxI_lo f zs k; show -1 ≤ max _ _; omega
/-- those of the first k whose value is m -/
def outK (f : Int → Nat) (zs : List Int) (m : Int) (k : Nat) : List Int := (zs.take k).filter fun z => (f z : Int) == m
theorem outK_same {f : Int → Nat} {zs : List Int} {m : Int} {k : Nat} (hk : k < zs.length) (h : (f zs[k] : Int) = m) : outK f zs m (k + 1) = outK f zs m k ++ [zs[k]] := by
  unfold outK
  rw [filter_take _ _ _ hk, if_pos (by rw [h]; exact beq_self_eq_true m)]
theorem outK_other {f : Int → Nat} {zs : List Int} {m : Int} {k : Nat} (hk : k < zs.length) (h : (f zs[k] : Int) ≠ m) : outK f zs m (k + 1) = outK f zs m k := by
  unfold outK
  rw [filter_take _ _ _ hk, if_neg (by simpa using h), List.append_nil]
theorem outK_none {f : Int → Nat} {zs : List Int} {m : Int} {k : Nat} (hk : k ≤ zs.length) (h : mxI f zs k < m) : outK f zs m k = [] := by
  unfold outK
  rw [List.filter_eq_nil_iff]
  intro z hz
  obtain ⟨j, hj, rfl⟩ := List.getElem_of_mem hz
  have hjk : j < k := by simp at hj; omega
  have := mxI_ge f zs k j hjk
  rw [getD_lt (by omega)] at this
  simp
  omega
theorem outK_le (f : Int → Nat) (zs : List Int) (m : Int) (k : Nat) : (outK f zs m k).length ≤ k := filter_le _ _ _

theorem comL_mem {m : Nat} {k : Int} {z : Int} (h : z ∈ comL m k) : 0 ≤ z ∧ z < m := by
  unfold comL at h
  obtain ⟨x, hx, rfl⟩ := List.mem_map.1 h
  have := (List.mem_filter.1 hx).1
  rw [List.mem_range] at this
  omega
theorem comL_pos {c k : Int} (h1 : 1 ≤ c ∧ c ≤ 5) (h2 : 1 ≤ k ∧ k ≤ c) : 0 < (comL (2 ^ c.toNat) k).length := by
  have h : ∀ c : Fin 6, ∀ k : Fin 6, k.val ≤ c.val → 0 < (comL (2 ^ c.val) ((k.val : Nat) : Int)).length := by decide +kernel
  have := h ⟨c.toNat, by omega⟩ ⟨k.toNat, by omega⟩ (by show k.toNat ≤ c.toNat; omega)
  rwa [Int.toNat_of_nonneg (by omega)] at this

/-- the score of a committee -/
def scF (q : Nat) (bs : List Int) (z : Int) : Nat := scoreV q bs z.toNat
theorem scF_le (q : Nat) (bs : List Int) (z : Int) : scF q bs z ≤ 147 * bs.length := scoreK_le _ _ _ _
theorem mxN_le (q : Nat) (bs zs : List Int) : ∀ k, mxN (scF q bs) zs k ≤ 147 * bs.length
  | 0 => Nat.zero_le _
  | k + 1 => by have := mxN_le q bs zs k; have := scF_le q bs (zs.getD k 0); show max _ _ ≤ _; omega
/-- the best of a list by a score -/
def bestL (q : Nat) (bs : List Int) (zs : List Int) : List Int := outK (scF q bs) zs (mxI (scF q bs) zs zs.length) zs.length
theorem bestL_le (q : Nat) (bs zs : List Int) : (bestL q bs zs).length ≤ zs.length := outK_le _ _ _ _
/-- what BestOf answers -/
def bestA (s : ByteArray) (c : Int) (bs : List Int) (k : Int) : List Int := if seatsB c bs k = true ∧ kindN s < 4 then bestL (kindN s) bs (comL (2 ^ c.toNat) k) else []
theorem bestA_yes {s : ByteArray} {c : Int} {bs : List Int} {k : Int} (h : seatsB c bs k = true) (h2 : kindN s < 4) : bestA s c bs k = bestL (kindN s) bs (comL (2 ^ c.toNat) k) := if_pos ⟨h, h2⟩
theorem bestA_seats {s : ByteArray} {c : Int} {bs : List Int} {k : Int} (h : seatsB c bs k = false) : bestA s c bs k = [] := if_neg (fun hh => by rw [h] at hh; cases hh.1)
theorem bestA_name {s : ByteArray} {c : Int} {bs : List Int} {k : Int} (h : ¬ kindN s < 4) : bestA s c bs k = [] := if_neg (fun hh => h hh.2)
theorem bestA_len (s : ByteArray) (c : Int) (bs : List Int) (k : Int) : (bestA s c bs k).length ≤ 32 := by
  unfold bestA
  split
  · rename_i h
    have h1 := (seats_of h.1).1.1
    exact Nat.le_trans (bestL_le _ _ _) (Nat.le_trans (comL_len _ _) (pow_le5 c h1.2))
  · simp

set_option maxHeartbeats 4000000 in
set_option maxRecDepth 100000 in
theorem specBest_any (s : ByteArray) (c : Int) (a : Option Addr) (cap : Nat) (bs : List Int) (k : Int) (w : World) (hi : Ints w a bs) (hn : bs.length ≤ 1048576) :
    Calls Try.prog 35 #[.string s, .int .i64 c, .slice a bs.length cap, .int .i64 k] w (Gives (bestA s c bs k) w) := by
  obtain ⟨i0, hi0, hz0, hz1, hz2⟩ := info_parts info_int
  by_cases hv : seatsB c bs k = true
  · have hS := seats_of hv
    have hl6 : bs.length ≤ 6 := by have := hS.1.2.1; omega
    have hl1 : 1 ≤ bs.length := by have := hS.1.2.1; omega
    have hc0 : 0 ≤ c := by have := hS.1.1; omega
    have hc5 : c ≤ 5 := by have := hS.1.1; omega
    have HR := hide (bal_range hS.1)
    have HP := hide (comL_pos hS.1.1 hS.2)
    have hM := pow_le5 c hc5
    clear hS
    by_cases hk : kindN s < 4
    · have HN := hide (bestA_yes hv hk)
      have his : isScore s = true := by unfold isScore; exact decide_eq_true hk
      have HK := hide hk
      clear hk
      go_enter Try.func35, Try.ntmps35
      go_wp2_with fail
      refine (specSeats_any _ _ _ _ _ _ hi hn).mono ?_
      rintro e w1 ⟨rfl, hb1⟩
      have hi1 := hi.below hb1
      go_wp2_with (go_at_call 78; refine (specScore_any _ _ _ _ 0 _ hi1 hl6 hl1 HR.out (by omega)).mono ?_; rintro e w' ⟨rfl, rfl⟩)
      refine (committees_any _ _ _ hc0 hc5).mono ?_
      rintro e wo ⟨vl, rfl, ownl, hbo⟩
      obtain ⟨al, cl, rfl, il, _⟩ := ownl.form
      have B0 := bnext (bnext hb1 (bel1 w1 (.cells #[] 3))) hbo
      have hio := hi.below B0
      obtain ⟨zs, hzs⟩ : ∃ zs, zs = comL (2 ^ c.toNat) k := ⟨_, rfl⟩
      have hzl : zs.length ≤ 32 := by rw [hzs]; exact Nat.le_trans (comL_len _ _) hM
      have HZ : Hid (∀ z ∈ zs, 0 ≤ z ∧ z ≤ 31) := fun z hz => by rw [hzs] at hz; have := comL_mem hz; omega
      rw [← hzs] at il HN HP ⊢
      have hzp : 0 < zs.length := HP.out
      clear hzs ownl hbo hi1 hb1 hi hM
      go_wp2
      go_loopw [11, 12, 14] (fun v b i wr => ∃ t : Nat, t ≤ zs.length ∧ i = .int .i64 t ∧ b = .int .i64 (mxI (scF (kindN s) bs) zs t) ∧ (0 < t → Owns wr wo.heap.size v (outK (scF (kindN s) bs) zs (mxI (scF (kindN s) bs) zs t) t)) ∧ Below wo.heap.size wo wr) (fun _ _ i _ => zs.length - (intOf i).toNat)
      case atStart => exact ⟨0, Nat.zero_le _, rfl, rfl, fun h => by omega, Below.refl _ _⟩
      case round =>
        obtain ⟨t, ht, rfl, rfl, hown, BR⟩ := hrel
        have hlo := mxI_lo (scF (kindN s) bs) zs t
        by_cases hlt : t < zs.length
        · obtain ⟨b, off, rfl, hbl, hc⟩ := (il.below BR) (by omega)
          have hck := hc t hlt
          rw [getD_lt hlt] at hck
          have hz := HZ.out _ (mem_of_at hlt)
          have HSt : Hid (mxI (scF (kindN s) bs) zs (t + 1) = max (mxI (scF (kindN s) bs) zs t) ((scF (kindN s) bs zs[t] : Nat) : Int)) := by unfold Hid; rw [mxI, getD_lt hlt]
          have hfl := scF_le (kindN s) bs zs[t]
          have hol := outK_le (scF (kindN s) bs) zs (mxI (scF (kindN s) bs) zs t) t
          have Hsame := hide (fun m (h : (scF (kindN s) bs zs[t] : Int) = m) => outK_same (f := scF (kindN s) bs) hlt h)
          have Hother := hide (fun m (h : (scF (kindN s) bs zs[t] : Int) ≠ m) => outK_other (f := scF (kindN s) bs) (m := m) hlt h)
          have Hnone := hide (fun m (h : mxI (scF (kindN s) bs) zs t < m) => outK_none (f := scF (kindN s) bs) (m := m) ht h)
          obtain ⟨y, hy⟩ := Int.eq_ofNat_of_zero_le hz.1
          have hy32 : y < 32 := by omega
          have HSc : Hid (scoreR s bs y = ((scF (kindN s) bs zs[t] : Nat) : Int)) := by
            unfold Hid
            rw [scoreR_yes bs y HK.out, hy]
            rfl
          obtain ⟨fz, hfz⟩ : ∃ fz, fz = scF (kindN s) bs zs[t] := ⟨_, rfl⟩
          obtain ⟨mx, hmx⟩ : ∃ mx, mx = mxI (scF (kindN s) bs) zs t := ⟨_, rfl⟩
          rw [← hfz] at HSt hfl Hsame Hother HSc
          rw [← hmx] at HSt hlo hown hol Hnone ⊢
          have iol := hio.below BR
          have hsz := BR.size
          have HT : Hid (mx = -1 ∨ 0 < t) := by
            unfold Hid
            rcases Nat.eq_zero_or_pos t with h | h
            · left; rw [hmx, h]; rfl
            · exact .inr h
          have HO := hide hown
          have HY := hide hy
          rw [hy] at hck
          clear hc hz hfz hmx hown hy
          rcases Int.lt_trichotomy mx (fz : Int) with hlt3 | heq3 | hgt3
          · have hm1 : max mx (fz : Int) = fz := by omega
            have HM1 := hide hm1
            have hh1 := hide (Hnone.out _ hlt3)
            have ho0 : Owns (wr.alloc (.cells #[] 3)) wo.heap.size (.slice (some ⟨wr.heap.size, 0, none⟩) 0 0) [] := World.ownsRow_lit wr #[] 0 hsz (by simp) rfl
            clear hm1
            go_wp2_with (first
              | (go_at_call 78; refine (specScore_any s _ _ _ y _ iol hl6 hl1 HR.out hy32).mono ?_; rintro e w' ⟨rfl, rfl⟩; rw [HSc.out])
              | (at_builtin; refine wpList_append_own _ rfl _ _ 23 rfl wo.heap.size 3 i0 (.int .i64 0) 1 8 Try.underlying23 hi0 hz0 hz1 hz2 rfl (by decide) _ _ _ rfl (ho0.alloc _) ⟨wr.heap.size + 1, 0, none⟩ 1 1 [.int .i64 y] rfl rfl ?c1 ?c2 ?c3 ?c4 ?c5 ?_))
            case c1 => simpa using cell_one_new (wr.alloc (.cells #[] 3)) _ _
            case c2 => intro u hu; simp at hu; subst hu; rfl
            case c3 => unfold maxLen; simp only [List.length_nil]; omega
            case c4 => simp only [List.length_nil]; omega
            case c5 => simp; omega
            intro v' w2 hown' hgrow _
            have hpush := hide (Owns.push (ys := []) hown')
            have hbel : Below wo.heap.size wo w2 := ((BR.alloc hsz _).alloc (by simp; omega) _).grown hgrow (by simp; omega) (fun j hj => own_ge ho0 j hj)
            clear hown' hgrow ho0
            go_wp2
            go_roundw
            case rel => exact ⟨t + 1, by omega, by go_num, by rw [HSt.out, HM1.out], fun _ => by rw [HSt.out, HM1.out, Hsame.out _ rfl, hh1.out, HY.out]; exact hpush.out, hbel⟩
            case measure => simp only [intOf]; omega
          · have hm1 : max mx (fz : Int) = fz := by omega
            have ht0 : 0 < t := by rcases HT.out with h | h <;> omega
            have hown := HO.out ht0
            have HM1 := hide hm1
            subst heq3
            clear hm1
            go_wp2_with (first
              | (go_at_call 78; refine (specScore_any s _ _ _ y _ iol hl6 hl1 HR.out hy32).mono ?_; rintro e w' ⟨rfl, rfl⟩; rw [HSc.out])
              | (at_builtin; refine wpList_append_own _ rfl _ _ 23 rfl wo.heap.size 3 i0 (.int .i64 0) 1 8 Try.underlying23 hi0 hz0 hz1 hz2 rfl (by decide) _ _ _ rfl (hown.alloc _) ⟨wr.heap.size, 0, none⟩ 1 1 [.int .i64 y] rfl rfl ?c1 ?c2 ?c3 ?c4 ?c5 ?_))
            case c1 => exact cell_one_new _ _ _
            case c2 => intro u hu; simp at hu; subst hu; rfl
            case c3 => unfold maxLen; omega
            case c4 => omega
            case c5 => simp; omega
            intro v' w2 hown' hgrow _
            have hpush := hide (Owns.push hown')
            have hbel : Below wo.heap.size wo w2 := (BR.alloc hsz _).grown hgrow (by simp; omega) (fun j hj => own_ge hown j hj)
            clear hown' hgrow hown
            go_wp2
            go_roundw
            case rel => exact ⟨t + 1, by omega, by go_num, by rw [HSt.out, HM1.out], fun _ => by rw [HSt.out, HM1.out, Hsame.out _ rfl, HY.out]; exact hpush.out, hbel⟩
            case measure => simp only [intOf]; omega
          · have hm1 : max mx (fz : Int) = mx := by omega
            have ht0 : 0 < t := by rcases HT.out with h | h <;> omega
            have hown := HO.out ht0
            have HM1 := hide hm1
            have hne : ((fz : Int) == mx) = false := by simp; omega
            have hng : ¬ mx < (fz : Int) := by omega
            have hh1 := hide (Hother.out mx (by omega))
            clear hm1
            go_wp2_with (go_at_call 78; refine (specScore_any s _ _ _ y _ iol hl6 hl1 HR.out hy32).mono ?_; rintro e w' ⟨rfl, rfl⟩; rw [HSc.out])
            go_roundw
            case rel => exact ⟨t + 1, by omega, by go_num, by rw [HSt.out, HM1.out], fun _ => by rw [HSt.out, HM1.out, hh1.out]; exact hown, BR⟩
            case measure => simp only [intOf]; omega
        · obtain rfl : t = zs.length := by omega
          go_wp2
          go_ret
          exact ⟨_, rfl, by rw [HN.out]; exact (hown hzp).le B0.size, bnext B0 BR⟩
    · have HN := hide (bestA_name (c := c) (bs := bs) (k := k) hk)
      have his : isScore s = false := by unfold isScore; exact decide_eq_false hk
      clear hk
      go_enter Try.func35, Try.ntmps35
      go_wp2_with fail
      refine (specSeats_any _ _ _ _ _ _ hi hn).mono ?_
      rintro e w1 ⟨rfl, hb1⟩
      have hi1 := hi.below hb1
      go_wp2_with (go_at_call 78; refine (specScore_any _ _ _ _ 0 _ hi1 hl6 hl1 HR.out (by omega)).mono ?_; rintro e w' ⟨rfl, rfl⟩)
      go_ret
      exact gives_nil HN.out hb1
  · have hv : seatsB c bs k = false := by simpa using hv
    have HN := hide (bestA_seats (s := s) hv)
    go_enter Try.func35, Try.ntmps35
    go_wp2_with fail
    refine (specSeats_any _ _ _ _ _ _ hi hn).mono ?_
    rintro e w1 ⟨rfl, hb1⟩
    go_wp2
    go_ret
    exact gives_nil HN.out hb1

/-- a committee has the score m -/
def bestIs (q : Nat) (bs : List Int) (m : Nat) (z : Int) : Bool := (scF q bs z : Int) == (m : Int)
set_option maxHeartbeats 1000000 in
theorem bestPick_any (q : Nat) (hq : q < 4) (a : Option Addr) (cap : Nat) (bs : List Int) (m : Nat) (z : Int) (g1 g2 g3 : Nat) (w : World) (hi : Ints w a bs) (h6 : bs.length ≤ 6) (h1 : 1 ≤ bs.length) (hr : ∀ b ∈ bs, 0 ≤ b ∧ b ≤ 31)
    (hz : 0 ≤ z ∧ z ≤ 31) (b1 : Box1 w g1 (Value.iface (kindT q) (.agg #[]))) (b2 : Box1 w g2 (.slice a bs.length cap)) (b3 : Box1 w g3 (.int .i64 (m : Int))) :
    Calls Try.prog 80 #[.int .i64 z, .pointer (some ⟨g1, 0, none⟩), .pointer (some ⟨g2, 0, none⟩), .pointer (some ⟨g3, 0, none⟩)] w fun e w' => e = .returned (.bool (bestIs q bs m z)) ∧ Below w.heap.size w w' := by
  obtain ⟨y, rfl⟩ := Int.eq_ofNat_of_zero_le hz.1
  have hy : y < 32 := by omega
  have HQ := hide hq
  have HR := hide hr
  have ⟨_, c1⟩ := b1
  have ⟨_, c2⟩ := b2
  have ⟨_, c3⟩ := b3
  clear hr hq hz
  go_enter Try.func80, Try.ntmps80
  go_wp2
  go_region_held3 (fun w' => w'.cell? ⟨g1, 0, none⟩ = some (Value.iface (kindT q) (.agg #[])) ∧ w'.cell? ⟨g2, 0, none⟩ = some (.slice a bs.length cap) ∧ w'.cell? ⟨g3, 0, none⟩ = some (.int .i64 (m : Int)))
    (first
      | exact ⟨c1, c2, c3⟩
      | exact ⟨(b1.below (bdrew hb3)).2, (b2.below (bdrew hb3)).2, (b3.below (bdrew hb3)).2⟩
      | go_keep)
    (first
      | (go_at_call 74; refine (scored_any _ HQ.out _ _ _ _ _ (hi.below (bdrew' (Below.refl _ _))) h6 h1 HR.out hy).mono ?_; rintro e w3 ⟨rfl, hb3⟩)
      | fail)
  go_wp2
  go_ret
  exact ⟨ret_bool (by unfold bestIs scF; rw [Int.toNat_natCast]), bdrew hb3⟩
set_option maxHeartbeats 1000000 in
theorem pickedBest_any (p : Int → Bool) (a : Option Addr) (cap : Nat) (g1 g2 g3 : Nat) (zs : List Int) (w : World) (hi : Ints w a zs) (hn : zs.length ≤ 1048576)
    (hf : ∀ (x : Int) (w' : World), x ∈ zs → Below w.heap.size w w' → Calls Try.prog 80 #[.int .i64 x, .pointer (some ⟨g1, 0, none⟩), .pointer (some ⟨g2, 0, none⟩), .pointer (some ⟨g3, 0, none⟩)] w' fun e w'' => e = .returned (.bool (p x)) ∧ Below w'.heap.size w' w'') :
    Calls Try.prog 79 #[.slice a zs.length cap, .func (.func 80) #[] #[.pointer (some ⟨g1, 0, none⟩), .pointer (some ⟨g2, 0, none⟩), .pointer (some ⟨g3, 0, none⟩)]] w fun e w' => ∃ v, e = .returned v ∧ Owns w' w.heap.size v (zs.filter p) ∧ Below w.heap.size w w' := by
  obtain ⟨i0, hi0, hz0, hz1, hz2⟩ := info_parts info_int
  have HF := hide hf
  clear hf
  go_enter Try.func79, Try.ntmps79
  go_wp2_with fail
  go_loopw [5, 10] (fun v i wr => ∃ k : Nat, k ≤ zs.length ∧ i = .int .i64 k ∧ Owns wr w.heap.size v ((zs.take k).filter p) ∧ Below w.heap.size w wr) (fun _ i _ => zs.length - (intOf i).toNat)
  case atStart => exact ⟨0, Nat.zero_le _, rfl, World.ownsRow_nil _ _ _ _, Below.refl _ _⟩
  case round =>
    obtain ⟨k, hk, rfl, hown, hb⟩ := hrel
    by_cases hlt : k < zs.length
    · obtain ⟨b, off, rfl, hbl, hc⟩ := (hi.below hb) (by omega)
      have hck := hc k hlt
      rw [getD_lt hlt] at hck
      have hft := hide (filter_take p zs k hlt)
      have hle := filter_le p zs k
      clear hc hi
      by_cases he : p zs[k] = true
      · have HE := hide he
        clear he
        go_wp2_with fail
        refine (HF.out _ _ (mem_of_at hlt) hb).mono ?_
        rintro e w1 ⟨rfl, h1⟩
        have he := HE.out
        have hb1 := bnext hb h1
        have ho1 : w1.ownsRow w.heap.size 3 1 u5 ((zs.take k).filter p).length (((zs.take k).filter p).map (Value.int .i64)) := hown.below h1
        have hz := hb1.size
        clear h1 hown
        go_wp2_with ((at_builtin; refine wpList_append_own _ rfl _ _ 23 rfl w.heap.size 3 i0 (.int .i64 0) 1 8 Try.underlying23 hi0 hz0 hz1 hz2 rfl (by decide) _ _ _ rfl (ho1.alloc _) ⟨w1.heap.size, 0, none⟩ 1 1 [.int .i64 zs[k]] rfl rfl ?c1 ?c2 ?c3 ?c4 ?c5 ?_))
        case c1 => exact cell_one_new _ _ _
        case c2 => intro u hu; simp at hu; subst hu; rfl
        case c3 => unfold maxLen; omega
        case c4 => omega
        case c5 => simp; omega
        intro v' w2 hown' hgrow _
        have hpush := hide (Owns.push hown')
        have hbel : Below w.heap.size w w2 := (hb1.alloc hz _).grown hgrow (by simp; omega) (fun j hj => (ho1.lt j hj).1)
        clear hown' hgrow ho1
        go_wp2
        go_roundw
        case rel => exact ⟨k + 1, by omega, by go_num, by rw [hft.out, if_pos HE.out]; exact hpush.out, hbel⟩
        case measure => simp only [intOf]; omega
      · have he : p zs[k] = false := by simpa using he
        have HE := hide he
        clear he
        go_wp2_with fail
        refine (HF.out _ _ (mem_of_at hlt) hb).mono ?_
        rintro e w1 ⟨rfl, h1⟩
        have he := HE.out
        go_wp2
        go_roundw
        case rel => exact ⟨k + 1, by omega, by go_num, by rw [hft.out, if_neg (by rw [HE.out]; decide), List.append_nil]; exact hown.below h1, bnext hb h1⟩
        case measure => simp only [intOf]; omega
    · obtain rfl : k = zs.length := by omega
      go_wp2
      go_ret
      exact ⟨_, rfl, by rw [List.take_length] at hown; exact hown, hb⟩
end Go.Proofs.Ytgkaghappogglaa
