/- IsServed in the model and in the program. -/
import Derived.Test.YtgkaghappogglaaSeat
import Derived.Test.YtgkaghappogglaaApp
namespace Go.Proofs.Ytgkaghappogglaa
open Go.RowKit Go.Joins

/-- a ballot has no name of the committee -/
def pB (w : Nat) (b : Int) : Bool := b.toNat &&& w == 0
theorem pB_and {w : Nat} {b : Int} (hb : 0 ≤ b ∧ b ≤ 31) (hw : w < 32) : (bits .and .i64 b (w : Int) == 0) = pB w b := by
  obtain ⟨y, rfl⟩ := Int.eq_ofNat_of_zero_le hb.1
  rw [and_big y w (by omega) (by omega)]
  unfold pB
  rw [Int.toNat_natCast, Bool.eq_iff_iff, beq_iff_eq, beq_iff_eq]
  omega
theorem supK_app (ys : List Int) (z : Int) (j : Nat) : ∀ k, k ≤ ys.length → supK (ys ++ [z]) j k = supK ys j k
  | 0, _ => rfl
  | k + 1, h => by
    unfold supK
    rw [supK_app ys z j k (by omega), List.getD_eq_getElem?_getD, List.getElem?_append_left (by omega), ← List.getD_eq_getElem?_getD]
theorem supN_app (ys : List Int) (z : Int) (j : Nat) : supN (ys ++ [z]) j = supN ys j + bitN z.toNat j := by
  unfold supN
  rw [List.length_append]
  show supK (ys ++ [z]) j ys.length + bitN ((ys ++ [z]).getD ys.length 0).toNat j = _
  rw [supK_app ys z j ys.length (Nat.le_refl _)]
  simp [List.getD_eq_getElem?_getD]
/-- how many of the first i ballots want a name and have none of the committee -/
def wantK (bs : List Int) (w x i : Nat) : Nat := supN ((bs.take i).filter (pB w)) x
def wantN (bs : List Int) (w x : Nat) : Nat := supN (bs.filter (pB w)) x
theorem wantK_all (bs : List Int) (w x : Nat) : wantK bs w x bs.length = wantN bs w x := by unfold wantK wantN; rw [List.take_length]
theorem wantK_le (bs : List Int) (w x i : Nat) : wantK bs w x i ≤ i := Nat.le_trans (supN_le _ _) (filter_le _ _ _)
theorem wantK_yes {bs : List Int} {w x i : Nat} (hi : i < bs.length) (hp : pB w bs[i] = true) (hb : bitN bs[i].toNat x = 1) : wantK bs w x (i + 1) = wantK bs w x i + 1 := by
  unfold wantK
  rw [filter_take _ _ _ hi, if_pos hp, supN_app, hb]
theorem wantK_bit {bs : List Int} {w x i : Nat} (hi : i < bs.length) (hb : bitN bs[i].toNat x = 0) : wantK bs w x (i + 1) = wantK bs w x i := by
  unfold wantK
  rw [filter_take _ _ _ hi]
  by_cases hp : pB w bs[i] = true
  · rw [if_pos hp, supN_app, hb]; rfl
  · rw [if_neg hp, List.append_nil]
theorem wantK_not {bs : List Int} {w x i : Nat} (hi : i < bs.length) (hp : pB w bs[i] = false) : wantK bs w x (i + 1) = wantK bs w x i := by
  unfold wantK
  rw [filter_take _ _ _ hi, if_neg (by rw [hp]; decide), List.append_nil]
/-- so many ballots without a name want this one -/
def needs (bs : List Int) (w : Nat) (k : Int) (x : Nat) : Bool := decide (0 < wantN bs w x ∧ (bs.length : Int) ≤ wantN bs w x * k)
/-- what IsServed answers -/
def servB (c : Int) (bs : List Int) (k w : Int) : Bool := seatedB c bs k w && !((List.range c.toNat).any (needs bs w.toNat k))
theorem servB_no {c : Int} {bs : List Int} {k w : Int} (h : seatedB c bs k w = false) : servB c bs k w = false := by unfold servB; rw [h]; rfl
theorem servB_need {c : Int} {bs : List Int} {k w : Int} {x : Nat} (hx : x < c.toNat) (h : needs bs w.toNat k x = true) : servB c bs k w = false := by
  unfold servB
  rw [List.any_eq_true.2 ⟨x, by simpa using hx, h⟩]; simp
theorem servB_yes {c : Int} {bs : List Int} {k w : Int} (h : seatedB c bs k w = true) (h2 : ∀ x, x < c.toNat → needs bs w.toNat k x = false) : servB c bs k w = true := by
  unfold servB
  rw [h, List.any_eq_false.2 (fun x hx => by rw [h2 x (by simpa using hx)]; decide)]; rfl
theorem mul_bound {n : Nat} {k : Int} (hn : n ≤ 6) (h0 : 0 ≤ k) (h5 : k ≤ 5) : 0 ≤ (n : Int) * k ∧ (n : Int) * k ≤ 30 := by
  have h1 : (n : Int) * k ≤ 6 * 5 := Int.mul_le_mul (by omega) h5 h0 (by omega)
  exact ⟨Int.mul_nonneg (by omega) h0, by omega⟩

set_option maxHeartbeats 4000000 in
set_option maxRecDepth 100000 in
theorem specServ_any (c k x : Int) (a : Option Addr) (cap : Nat) (bs : List Int) (w : World) (hi : Ints w a bs) (hn : bs.length ≤ 1048576) :
    Calls Try.prog 53 #[.int .i64 c, .slice a bs.length cap, .int .i64 k, .int .i64 x] w fun e w' => e = .returned (.bool (servB c bs k x)) ∧ Below w.heap.size w w' := by
  by_cases hs : seatsB c bs k = true
  · have hS := seats_of hs
    have HS := hide hS
    have hc5 : c ≤ 5 := hS.1.1.2
    have hc1 : 1 ≤ c := hS.1.1.1
    have hk5 : k ≤ 5 := by omega
    have hk0 : 0 ≤ k := by omega
    have hl6 : bs.length ≤ 6 := by have := hS.1.2.1; omega
    have p1 := pw_pos c
    have p5 := pw_le5 c hc5
    have HR := hide (bal_range hS.1)
    clear hS
    by_cases hx : 0 ≤ x ∧ x ≤ pw c - 1
    · have hx32 : x.toNat < 32 := by omega
      obtain ⟨y, rfl⟩ := Int.eq_ofNat_of_zero_le hx.1
      rw [Int.toNat_natCast] at hx32
      have HX := hide hx
      by_cases hp : (pc y : Int) ≤ k
      · have HF := hide (seatedB_yes hs hx (by rw [Int.toNat_natCast]; exact hp))
        have hp6 := pc_le y
        have hp2 : ¬ k < (pc y : Int) := by omega
        clear hx
        obtain ⟨m, rfl⟩ := Int.eq_ofNat_of_zero_le (show 0 ≤ c from by omega)
        go_enter Try.func53, Try.ntmps53
        go_wp2_with fail
        refine (specSeats_any _ _ _ _ _ _ hi hn).mono ?_
        rintro e wo ⟨rfl, hb1⟩
        have hio := hi.below hb1
        go_wp2_with (first
          | (go_at_call 77; refine (power_any _ _ (by omega) (by omega)).mono ?_; rintro e w' ⟨rfl, rfl⟩)
          | (go_at_call 70; refine (inRange_yes _ _ _ _ HX.out).mono ?_; rintro e w' ⟨rfl, rfl⟩)
          | (go_at_call 89; refine (weight_any _ _ (by omega)).mono ?_; rintro e w' ⟨rfl, rfl⟩))
        go_loop [9] (fun i => ∃ j : Nat, j ≤ m ∧ i = .int .i64 j ∧ (∀ t, t < j → needs bs y k t = false)) (fun i => m - (intOf i).toNat)
        case atStart => exact ⟨0, Nat.zero_le _, rfl, fun t ht => by omega⟩
        case round =>
          obtain ⟨j, hj, rfl, hall⟩ := hrel
          have HA := hide hall
          clear hall
          by_cases hjm : j < m
          · go_wp2
            go_loop [10, 11] (fun s i => ∃ t : Nat, t ≤ bs.length ∧ i = .int .i64 t ∧ s = .int .i64 (wantK bs y j t)) (fun _ i => bs.length - (intOf i).toNat)
            case atStart => exact ⟨0, Nat.zero_le _, rfl, rfl⟩
            case round =>
              obtain ⟨t, ht, rfl, rfl⟩ := hrel
              have hwl := wantK_le bs y j t
              by_cases hlt : t < bs.length
              · obtain ⟨b, off, rfl, hbl, hc⟩ := hio (by omega)
                have hck := hc t hlt
                rw [getD_lt hlt] at hck
                have hr := HR.out _ (mem_of_at hlt)
                have HRR := hide hr
                have hpb := pB_and hr hx32
                clear hc hio hi hr
                by_cases hbit : bitN bs[t].toNat j = 1
                · by_cases hpp : pB y bs[t] = true
                  · have HK := hide (wantK_yes hlt hpp hbit)
                    rw [hpp] at hpb
                    have HB := hide hbit
                    clear hbit hpp
                    go_wp2_with (go_at_call 86; refine (bitI_any _ _ _ (by have := HRR.out; omega) (by omega)).mono ?_; rintro e w' ⟨rfl, rfl⟩; rw [HB.out])
                    go_round
                    case rel => exact ⟨t + 1, by omega, by go_num, by rw [HK.out]; go_num⟩
                    case measure => simp only [intOf]; omega
                  · have hpp : pB y bs[t] = false := by simpa using hpp
                    have HK := hide (wantK_not (x := j) hlt hpp)
                    rw [hpp] at hpb
                    have HB := hide hbit
                    clear hbit hpp
                    go_wp2_with (go_at_call 86; refine (bitI_any _ _ _ (by have := HRR.out; omega) (by omega)).mono ?_; rintro e w' ⟨rfl, rfl⟩; rw [HB.out])
                    go_round
                    case rel => exact ⟨t + 1, by omega, by go_num, by rw [HK.out]⟩
                    case measure => simp only [intOf]; omega
                · have hbit : bitN bs[t].toNat j = 0 := by have := bitN_le bs[t].toNat j; omega
                  have HK := hide (wantK_bit (w := y) hlt hbit)
                  have HB := hide hbit
                  clear hbit hpb
                  go_wp2_with (go_at_call 86; refine (bitI_any _ _ _ (by have := HRR.out; omega) (by omega)).mono ?_; rintro e w' ⟨rfl, rfl⟩; rw [HB.out])
                  go_round
                  case rel => exact ⟨t + 1, by omega, by go_num, by rw [HK.out]⟩
                  case measure => simp only [intOf]; omega
              · obtain rfl : t = bs.length := by omega
                have hall := wantK_all bs y j
                rw [hall] at hwl ⊢
                have hmb := mul_bound (n := wantN bs y j) (by omega) hk0 hk5
                obtain ⟨hm1, hm2⟩ := hmb
                clear hall
                by_cases hnd : needs bs y k j = true
                · have HN := hide (servB_need (c := (m : Int)) (w := (y : Int)) (k := k) (bs := bs) (x := j) (by omega) (by rw [Int.toNat_natCast]; exact hnd))
                  have h1 : 0 < wantN bs y j ∧ (bs.length : Int) ≤ wantN bs y j * k := by simpa [needs] using hnd
                  obtain ⟨h1, h2⟩ := h1
                  go_wp2
                  go_ret
                  exact ⟨ret_bool HN.out.symm, hb1⟩
                · have hnd : needs bs y k j = false := by simpa using hnd
                  have HND := hide hnd
                  by_cases h0 : 0 < wantN bs y j
                  · have h2 : ¬ (bs.length : Int) ≤ wantN bs y j * k := by
                      intro h2
                      have : needs bs y k j = true := by unfold needs; exact decide_eq_true ⟨h0, h2⟩
                      rw [hnd] at this; cases this
                    clear hnd
                    go_wp2
                    go_round
                    case rel => exact ⟨j + 1, by omega, by go_num, fun t ht => by
                      rcases Nat.lt_or_ge t j with h | h
                      · exact HA.out t h
                      · obtain rfl : t = j := by omega
                        exact HND.out⟩
                    case measure => simp only [intOf]; omega
                  · clear hnd
                    go_wp2
                    go_round
                    case rel => exact ⟨j + 1, by omega, by go_num, fun t ht => by
                      rcases Nat.lt_or_ge t j with h | h
                      · exact HA.out t h
                      · obtain rfl : t = j := by omega
                        exact HND.out⟩
                    case measure => simp only [intOf]; omega
          · obtain rfl : j = m := by omega
            have HN := hide (servB_yes HF.out (by rw [Int.toNat_natCast, Int.toNat_natCast]; exact HA.out))
            go_wp2
            go_ret
            exact ⟨ret_bool HN.out.symm, hb1⟩
      · have HF := hide (servB_no (seatedB_more (c := c) (bs := bs) (k := k) (w := (y : Int)) (by rw [Int.toNat_natCast]; exact hp)))
        have hp2 : k < (pc y : Int) := by omega
        clear hx hp
        go_enter Try.func53, Try.ntmps53
        go_wp2_with fail
        refine (specSeats_any _ _ _ _ _ _ hi hn).mono ?_
        rintro e wo ⟨rfl, hb1⟩
        go_wp2_with (first
          | (go_at_call 77; refine (power_any _ _ (by omega) (by omega)).mono ?_; rintro e w' ⟨rfl, rfl⟩)
          | (go_at_call 70; refine (inRange_yes _ _ _ _ HX.out).mono ?_; rintro e w' ⟨rfl, rfl⟩)
          | (go_at_call 89; refine (weight_any _ _ (by omega)).mono ?_; rintro e w' ⟨rfl, rfl⟩))
        go_ret
        exact ⟨ret_bool HF.out.symm, hb1⟩
    · have HF := hide (servB_no (seatedB_out (bs := bs) (k := k) hx))
      have HX := hide hx
      clear hx
      go_enter Try.func53, Try.ntmps53
      go_wp2_with fail
      refine (specSeats_any _ _ _ _ _ _ hi hn).mono ?_
      rintro e wo ⟨rfl, hb1⟩
      go_wp2_with (first
        | (go_at_call 77; refine (power_any _ _ (by omega) (by omega)).mono ?_; rintro e w' ⟨rfl, rfl⟩)
        | (go_at_call 70; refine (inRange_no _ _ _ _ HX.out).mono ?_; rintro e w' ⟨rfl, rfl⟩))
      go_ret
      exact ⟨ret_bool HF.out.symm, hb1⟩
  · have hs : seatsB c bs k = false := by simpa using hs
    have HF := hide (servB_no (seatedB_no (w := x) hs))
    go_enter Try.func53, Try.ntmps53
    go_wp2_with fail
    refine (specSeats_any _ _ _ _ _ _ hi hn).mono ?_
    rintro e w1 ⟨rfl, hb1⟩
    go_wp2
    go_ret
    exact ⟨ret_bool HF.out.symm, hb1⟩

theorem servPick_any (y : Nat) (x : Int) (g : Nat) (w : World) (hy : y < 32) (hx : 0 ≤ x ∧ x ≤ 31) (bx : Box1 w g (.int .i64 (y : Int))) :
    Calls Try.prog 98 #[.int .i64 x, .pointer (some ⟨g, 0, none⟩)] w fun e w' => e = .returned (.bool (pB y x)) ∧ Below w.heap.size w w' := by
  obtain ⟨_, c0⟩ := bx
  have hp := pB_and hx hy
  go_enter Try.func98, Try.ntmps98
  go_wp2
  go_ret
  exact ⟨rfl, Below.refl _ _⟩
set_option maxHeartbeats 1000000 in
theorem pickedServ_any (p : Int → Bool) (a : Option Addr) (cap : Nat) (g : Nat) (zs : List Int) (w : World) (hi : Ints w a zs) (hn : zs.length ≤ 1048576)
    (hf : ∀ (x : Int) (w' : World), x ∈ zs → Below w.heap.size w w' → Calls Try.prog 98 #[.int .i64 x, .pointer (some ⟨g, 0, none⟩)] w' fun e w'' => e = .returned (.bool (p x)) ∧ Below w'.heap.size w' w'') :
    Calls Try.prog 79 #[.slice a zs.length cap, .func (.func 98) #[] #[.pointer (some ⟨g, 0, none⟩)]] w fun e w' => ∃ v, e = .returned v ∧ Owns w' w.heap.size v (zs.filter p) ∧ Below w.heap.size w w' := by
  obtain ⟨i0, hi0, hz0, hz1, hz2⟩ := info_parts info_int
  have HF := hide hf
  clear hf
  go_enter Try.func79, Try.ntmps79
  go_wp2_with fail
  go_loopw [5, 10] (fun v i wr => ∃ k : Nat, k ≤ zs.length ∧ i = .int .i64 k ∧ Owns wr w.heap.size v ((zs.take k).filter p) ∧ Below w.heap.size w wr) (fun _ i _ => zs.length - (intOf i).toNat)
  case atStart => exact ⟨0, Nat.zero_le _, rfl, World.ownsRow_nil _ _ _ _, Below.refl _ _⟩
  case round =>
    obtain ⟨k, hk, rfl, hown, hb⟩ := hrel
    by_cases hlt : k < zs.length
    · obtain ⟨b, off, rfl, hbl, hc⟩ := (hi.below hb) (by omega)
      have hck := hc k hlt
      rw [getD_lt hlt] at hck
      have hft := hide (filter_take p zs k hlt)
      have hle := filter_le p zs k
      clear hc hi
      by_cases he : p zs[k] = true
      · have HE := hide he
        clear he
        go_wp2_with fail
        refine (HF.out _ _ (mem_of_at hlt) hb).mono ?_
        rintro e w1 ⟨rfl, h1⟩
        have he := HE.out
        have hb1 := bnext hb h1
        have ho1 : w1.ownsRow w.heap.size 3 1 u5 ((zs.take k).filter p).length (((zs.take k).filter p).map (Value.int .i64)) := hown.below h1
        have hz := hb1.size
        clear h1 hown
        go_wp2_with ((at_builtin; refine wpList_append_own _ rfl _ _ 23 rfl w.heap.size 3 i0 (.int .i64 0) 1 8 Try.underlying23 hi0 hz0 hz1 hz2 rfl (by decide) _ _ _ rfl (ho1.alloc _) ⟨w1.heap.size, 0, none⟩ 1 1 [.int .i64 zs[k]] rfl rfl ?c1 ?c2 ?c3 ?c4 ?c5 ?_))
        case c1 => exact cell_one_new _ _ _
        case c2 => intro u hu; simp at hu; subst hu; rfl
        case c3 => unfold maxLen; omega
        case c4 => omega
        case c5 => simp; omega
        intro v' w2 hown' hgrow _
        have hpush := hide (Owns.push hown')
        have hbel : Below w.heap.size w w2 := (hb1.alloc hz _).grown hgrow (by simp; omega) (fun j hj => (ho1.lt j hj).1)
        clear hown' hgrow ho1
        go_wp2
        go_roundw
        case rel => exact ⟨k + 1, by omega, by go_num, by rw [hft.out, if_pos HE.out]; exact hpush.out, hbel⟩
        case measure => simp only [intOf]; omega
      · have he : p zs[k] = false := by simpa using he
        have HE := hide he
        clear he
        go_wp2_with fail
        refine (HF.out _ _ (mem_of_at hlt) hb).mono ?_
        rintro e w1 ⟨rfl, h1⟩
        have he := HE.out
        go_wp2
        go_roundw
        case rel => exact ⟨k + 1, by omega, by go_num, by rw [hft.out, if_neg (by rw [HE.out]; decide), List.append_nil]; exact hown.below h1, bnext hb h1⟩
        case measure => simp only [intOf]; omega
    · obtain rfl : k = zs.length := by omega
      go_wp2
      go_ret
      exact ⟨_, rfl, by rw [List.take_length] at hown; exact hown, hb⟩

/-- enough ballots want a name -/
def enough (n : Nat) (k x : Int) : Bool := decide ((n : Int) ≤ x * k)
theorem servHas_any (k x : Int) (a : Option Addr) (n cap g g' : Nat) (w : World) (hk0 : 0 ≤ k) (hk5 : k ≤ 5) (hx0 : 0 ≤ x) (hx6 : x ≤ 6) (bk : Box1 w g (.int .i64 k)) (bb : Box1 w g' (.slice a n cap)) :
    Calls Try.prog 99 #[.int .i64 x, .pointer (some ⟨g, 0, none⟩), .pointer (some ⟨g', 0, none⟩)] w fun e w' => e = .returned (.bool (enough n k x)) ∧ Below w.heap.size w w' := by
  obtain ⟨_, c0⟩ := bk
  obtain ⟨_, c1⟩ := bb
  obtain ⟨z, rfl⟩ := Int.eq_ofNat_of_zero_le hx0
  have hm := mul_bound (n := z) (by omega) hk0 hk5
  obtain ⟨hm1, hm2⟩ := hm
  go_enter Try.func99, Try.ntmps99
  go_wp2
  go_ret
  exact ⟨ret_bool (by unfold enough; simp), Below.refl _ _⟩
/-- What slices.IndexFunc leaves, with a test p. -/
def IdxPostServ (p : Int → Bool) (zs : List Int) (w : World) (e : Ending) (w' : World) : Prop :=
  ∃ r : Int, ((zs.any p = true ∧ 0 ≤ r) ∨ (zs.any p = false ∧ r = -1)) ∧ r ≤ 1048576 ∧ e = .returned (.int .i64 r) ∧ Below w.heap.size w w'

set_option maxHeartbeats 1000000 in
theorem indexFuncServ_any (p : Int → Bool) (a : Option Addr) (cap : Nat) (g g' : Nat) (zs : List Int) (w : World) (hi : Ints w a zs) (hn : zs.length ≤ 1048576)
    (hf : ∀ (x : Int) (w' : World), x ∈ zs → Below w.heap.size w w' → Calls Try.prog 99 #[.int .i64 x, .pointer (some ⟨g, 0, none⟩), .pointer (some ⟨g', 0, none⟩)] w' fun e w'' => e = .returned (.bool (p x)) ∧ Below w'.heap.size w' w'') :
    Calls Try.prog 101 #[.slice a zs.length cap, .func (.func 99) #[] #[.pointer (some ⟨g, 0, none⟩), .pointer (some ⟨g', 0, none⟩)]] w (IdxPostServ p zs w) := by
  have HF := hide hf
  clear hf
  go_enter Try.func101, Try.ntmps101
  go_wp2_with fail
  go_loopw [8] (fun i wr => ∃ k : Nat, k ≤ zs.length ∧ i = .int .i64 k ∧ (∀ j, j < k → p (zs.getD j 0) = false) ∧ Below w.heap.size w wr) (fun i _ => zs.length - (intOf i).toNat)
  case atStart => exact ⟨0, Nat.zero_le _, rfl, fun j hj => by omega, Below.refl _ _⟩
  case round =>
    obtain ⟨k, hk, rfl, hall, hb⟩ := hrel
    have HA := hide hall
    clear hall
    by_cases hlt : k < zs.length
    · obtain ⟨bb, off, rfl, hbl, hc⟩ := (hi.below hb) (by omega)
      have hck := hc k hlt
      rw [getD_lt hlt] at hck
      clear hc hi
      by_cases he : p zs[k] = true
      · have HF2 := hide (any_true hlt he)
        have HE := hide he
        clear he
        go_wp2_with fail
        refine (HF.out _ _ (mem_of_at hlt) hb).mono ?_
        rintro e w1 ⟨rfl, h1⟩
        have he := HE.out
        go_wp2
        go_ret
        exact ⟨k, .inl ⟨HF2.out, by omega⟩, by omega, rfl, bnext hb h1⟩
      · have he : p zs[k] = false := by simpa using he
        have HE := hide he
        clear he
        go_wp2_with fail
        refine (HF.out _ _ (mem_of_at hlt) hb).mono ?_
        rintro e w1 ⟨rfl, h1⟩
        have he := HE.out
        go_wp2
        go_roundw
        case rel => exact ⟨k + 1, by omega, by go_num, fun j hj => by
          rcases Nat.lt_or_ge j k with h | h
          · exact HA.out j h
          · obtain rfl : j = k := by omega
            rw [getD_lt hlt]
            exact HE.out, bnext hb h1⟩
        case measure => simp only [intOf]; omega
    · obtain rfl : k = zs.length := by omega
      go_wp2
      go_ret
      exact ⟨-1, .inr ⟨any_false HA.out, rfl⟩, by omega, rfl, hb⟩

set_option maxHeartbeats 1000000 in
theorem containsFuncServ_any (p : Int → Bool) (a : Option Addr) (cap : Nat) (g g' : Nat) (zs : List Int) (w : World) (hi : Ints w a zs) (hn : zs.length ≤ 1048576)
    (hf : ∀ (x : Int) (w' : World), x ∈ zs → Below w.heap.size w w' → Calls Try.prog 99 #[.int .i64 x, .pointer (some ⟨g, 0, none⟩), .pointer (some ⟨g', 0, none⟩)] w' fun e w'' => e = .returned (.bool (p x)) ∧ Below w'.heap.size w' w'') :
    Calls Try.prog 62 #[.slice a zs.length cap, .func (.func 99) #[] #[.pointer (some ⟨g, 0, none⟩), .pointer (some ⟨g', 0, none⟩)]] w fun e w' => e = .returned (.bool (zs.any p)) ∧ Below w.heap.size w w' := by
  have HF := hide hf
  clear hf
  by_cases hm : zs.any p = true
  · have HM := hide hm
    clear hm
    go_enter Try.func62, Try.ntmps62
    go_wp2_with fail
    refine (indexFuncServ_any p _ _ _ _ _ _ hi hn HF.out).mono ?_
    rintro e w' ⟨r, hr, hr2, rfl, hb⟩
    have h0 : 0 ≤ r := by
      rcases hr with ⟨_, h⟩ | ⟨h, _⟩
      · exact h
      · rw [HM.out] at h; cases h
    clear hr
    go_wp2
    go_ret
    exact ⟨ret_bool HM.out.symm, hb⟩
  · have hm : zs.any p = false := by simpa using hm
    have HM := hide hm
    clear hm
    go_enter Try.func62, Try.ntmps62
    go_wp2_with fail
    refine (indexFuncServ_any p _ _ _ _ _ _ hi hn HF.out).mono ?_
    rintro e w' ⟨r, hr, hr2, rfl, hb⟩
    have h0 : r < 0 := by
      rcases hr with ⟨h, _⟩ | ⟨_, h⟩
      · rw [HM.out] at h; cases h
      · omega
    clear hr
    go_wp2
    go_ret
    exact ⟨ret_bool (by rw [HM.out]; simp; omega), hb⟩

theorem bal_filter {c : Int} {bs : List Int} (h : BalOk c bs) (p : Int → Bool) (hp : 0 < (bs.filter p).length) : balB c (bs.filter p) = true := by
  have hl := List.length_filter_le p bs
  refine balB_true ⟨h.1, ⟨by omega, by have := h.2.1; omega⟩, fun j hj => ?_⟩
  rw [getD_lt hj]
  exact bal_mem h _ ((List.mem_filter.1 (mem_of_at hj)).1)
/-- the two ways to ask whether enough ballots without a name want one -/
theorem served_eq {c : Int} {bs : List Int} {k : Int} {w : Nat} (h : BalOk c bs) : ((appA c (bs.filter (pB w))).any (enough bs.length k)) = (List.range c.toNat).any (needs bs w k) := by
  have hl : 1 ≤ (bs.length : Int) := h.2.1.1
  by_cases hz : 0 < (bs.filter (pB w)).length
  · rw [appA_yes (bal_filter h _ hz)]
    unfold supL
    rw [List.any_map]
    congr 1
    funext x
    show enough bs.length k (wantN bs w x : Int) = needs bs w k x
    unfold enough needs
    rw [Bool.eq_iff_iff, decide_eq_true_eq, decide_eq_true_eq]
    refine ⟨fun hh => ⟨?_, hh⟩, fun hh => hh.2⟩
    rcases Nat.eq_zero_or_pos (wantN bs w x) with e | e
    · exfalso
      rw [e, Int.natCast_zero, Int.zero_mul] at hh
      omega
    · exact e
  · have he : bs.filter (pB w) = [] := List.length_eq_zero_iff.1 (by omega)
    rw [he, appA_no (balB_false (fun hh : BalOk c [] => by have := hh.2.1.1; simp at this))]
    symm
    show (List.range c.toNat).any (needs bs w k) = false
    rw [List.any_eq_false]
    intro x _
    unfold needs wantN
    rw [he, decide_eq_true_eq]
    intro hh
    exact absurd hh.1 (by show ¬ 0 < 0; omega)

set_option maxHeartbeats 4000000 in
theorem implServ_any (c k x : Int) (a : Option Addr) (cap : Nat) (bs : List Int) (w : World) (hi : Ints w a bs) (hn : bs.length ≤ 1048576) :
    Calls Try.prog 52 #[.int .i64 c, .slice a bs.length cap, .int .i64 k, .int .i64 x] w fun e w' => e = .returned (.bool (servB c bs k x)) ∧ Below w.heap.size w w' := by
  have bb := Box1.new w (.slice a bs.length cap) 23
  have bk := Box1.new (w.alloc (.cells #[.slice a bs.length cap] 23)) (.int .i64 k) 3
  have bx := Box1.new ((w.alloc (.cells #[.slice a bs.length cap] 23)).alloc (.cells #[.int .i64 k] 3)) (.int .i64 x) 3
  have B3 := bel3 w (.cells #[.slice a bs.length cap] 23) (.cells #[.int .i64 k] 3) (.cells #[.int .i64 x] 3)
  have bb3 := (bb.below (bel1 _ (.cells #[.int .i64 k] 3))).below (bel1 _ (.cells #[.int .i64 x] 3))
  have bk3 := bk.below (bel1 _ (.cells #[.int .i64 x] 3))
  simp only [World.size_alloc] at bk3 bx
  have hi3 := hi.below B3
  clear bb bk
  have HBB := hide bb3
  have HBK := hide bk3
  have HBX := hide bx
  clear bb3 bk3 bx
  by_cases hs : seatedB c bs k x = true
  · have hS := seated_of hs
    have hT := seats_of hS.1
    have hx32 : x.toNat < 32 := by have := pw_le5 c hT.1.1.2; omega
    obtain ⟨y, rfl⟩ := Int.eq_ofNat_of_zero_le hS.2.1.1
    rw [Int.toNat_natCast] at hx32
    have hk0 : 0 ≤ k := by omega
    have hk5 : k ≤ 5 := by have := hT.1.1.2; omega
    have HR := hide (bal_range hT.1)
    have HV : Hid (servB c bs k (y : Int) = !((appA c (bs.filter (pB y))).any (enough bs.length k))) := by
      unfold Hid servB
      rw [hs, Int.toNat_natCast, served_eq hT.1]; rfl
    have hfl : (bs.filter (pB y)).length ≤ 1048576 := Nat.le_trans (List.length_filter_le _ _) hn
    have HE : Hid (∀ z ∈ appA c (bs.filter (pB y)), 0 ≤ z ∧ z ≤ 6) := by
      intro z hz
      by_cases hz0 : 0 < (bs.filter (pB y)).length
      · rw [appA_yes (bal_filter hT.1 _ hz0)] at hz
        unfold supL at hz
        obtain ⟨t, _, rfl⟩ := List.mem_map.1 hz
        have h1 := supN_le (bs.filter (pB y)) t
        have h2 := List.length_filter_le (pB y) bs
        have h3 := hT.1.2.1
        omega
      · have he : bs.filter (pB y) = [] := List.length_eq_zero_iff.1 (by omega)
        rw [he, appA_no (balB_false (fun hh : BalOk c [] => by have := hh.2.1.1; simp at this))] at hz
        cases hz
    have hal := appA_len c (bs.filter (pB y))
    clear hS hT
    go_enter Try.func52, Try.ntmps52
    have ⟨_, cb⟩ := HBB.out
    have ⟨_, ck⟩ := HBK.out
    have ⟨_, cx⟩ := HBX.out
    go_wp2_with fail
    refine (mayBeSeated_any _ _ _ _ _ _ _ hi3 hn).mono ?_
    rintro e w1 ⟨rfl, hb1⟩
    clear cb ck cx
    have ⟨_, cb⟩ := HBB.out.below hb1
    go_wp2_with fail
    refine (pickedServ_any (pB y) _ _ _ _ _ (hi3.below hb1) hn (fun z w' hz hb' => servPick_any y z _ _ hx32 (HR.out z hz) ((HBX.out.below hb1).below hb'))).mono ?_
    rintro e w2 ⟨v, rfl, own, hb2⟩
    obtain ⟨av, cv, rfl, iv, _⟩ := own.form
    clear cb
    go_wp2_with fail
    refine (implApp_any _ _ _ _ _ iv hfl).mono ?_
    rintro e w3 ⟨v3, rfl, own3, hb3⟩
    obtain ⟨a3, c3, rfl, i3, _⟩ := own3.form
    go_wp2_with fail
    refine (containsFuncServ_any (enough bs.length k) _ _ _ _ _ _ i3 (by omega) (fun z w' hz hb' => servHas_any k z _ _ _ _ _ _ hk0 hk5 (HE.out z hz).1 (HE.out z hz).2 ((((HBK.out.below hb1).below hb2).below hb3).below hb') ((((HBB.out.below hb1).below hb2).below hb3).below hb'))).mono ?_
    rintro e w4 ⟨rfl, hb4⟩
    go_wp2
    go_ret
    exact ⟨ret_bool HV.out.symm, bnext (bnext (bnext (bnext B3 hb1) hb2) hb3) hb4⟩
  · have hs : seatedB c bs k x = false := by simpa using hs
    have HF := hide (servB_no hs)
    go_enter Try.func52, Try.ntmps52
    have ⟨_, cb⟩ := HBB.out
    have ⟨_, ck⟩ := HBK.out
    have ⟨_, cx⟩ := HBX.out
    go_wp2_with fail
    refine (mayBeSeated_any _ _ _ _ _ _ _ hi3 hn).mono ?_
    rintro e w1 ⟨rfl, hb1⟩
    go_wp2
    go_ret
    exact ⟨ret_bool HF.out.symm, bnext B3 hb1⟩
end Go.Proofs.Ytgkaghappogglaa
