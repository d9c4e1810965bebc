/- Groups that are wronged, in the program: members, what is due, claims. -/
import Derived.Test.YthkikjidkehheaaWroB
import Derived.Test.YthkikjidkehheaaSco
import Derived.Deep.RegionHeld3
namespace Go.Proofs.Ythkikjidkehheaa
open Go.RowKit Go.Joins

theorem shr_bit6 (y j : Nat) (hx : y < 64) (hj : j ≤ 6) : bits .and .i64 ((y : Int) / 2 ^ j) 1 = (bitN y j : Nat) := by
  have h : ∀ y : Fin 64, ∀ j : Fin 7, bits .and .i64 (((y.val : Nat) : Int) / 2 ^ j.val) 1 = ((bitN y.val j.val : Nat) : Int) := by decide +kernel
  exact h ⟨y, hx⟩ ⟨j, by omega⟩
set_option maxHeartbeats 1000000 in
theorem membersOf_any (a : Option Addr) (cap : Nat) (bs : List Int) (g : Nat) (w : World) (hi : Ints w a bs) (hl6 : bs.length ≤ 6) (hg : g < 64) :
    Calls Try.prog 64 #[.slice a bs.length cap, .int .i64 g] w (Gives (memL bs g) w) := by
  obtain ⟨i0, hi0, hz0, hz1, hz2⟩ := info_parts info_int
  go_enter Try.func64, Try.ntmps64
  go_wp2_with fail
  go_loopw [5, 10] (fun v i wr => ∃ k : Nat, k ≤ bs.length ∧ i = .int .i64 k ∧ Owns wr w.heap.size v (memK bs g k) ∧ Below w.heap.size w wr) (fun _ i _ => bs.length - (intOf i).toNat)
  case atStart => exact ⟨0, Nat.zero_le _, rfl, World.ownsRow_nil _ _ _ _, Below.refl _ _⟩
  case round =>
    obtain ⟨k, hk, rfl, hown, hb⟩ := hrel
    have hml := memK_len bs g k
    by_cases hlt : k < bs.length
    · obtain ⟨b, off, rfl, hbl, hc⟩ := (hi.below hb) (by omega)
      have hck := hc k hlt
      rw [getD_lt hlt] at hck
      have hsz := hb.size
      have hsh := shr_bit6 g k hg (by omega)
      have hb1 := bitN_le g k
      clear hc hi
      by_cases h1 : bitN g k = 1
      · have HY := hide (memK_yes (bs := bs) h1)
        rw [getD_lt hlt] at HY
        rw [h1] at hsh
        clear h1 hb1
        go_wp2_with ((at_builtin; refine wpList_append_own _ rfl _ _ 22 rfl w.heap.size 3 i0 (.int .i64 0) 1 8 Try.underlying22 hi0 hz0 hz1 hz2 rfl (by decide) _ _ _ rfl (hown.alloc _) ⟨wr.heap.size, 0, none⟩ 1 1 [.int .i64 bs[k]] rfl rfl ?c1 ?c2 ?c3 ?c4 ?c5 ?_))
        case c1 => exact cell_one_new _ _ _
        case c2 => intro u hu; simp at hu; subst hu; rfl
        case c3 => unfold maxLen; omega
        case c4 => omega
        case c5 => simp; omega
        intro v' w2 hown' hgrow _
        have hpush := hide (Owns.push hown')
        have hbel : Below w.heap.size w w2 := (hb.alloc hsz _).grown hgrow (by simp; omega) (fun j hj => own_ge hown j hj)
        clear hown' hgrow hown
        go_wp2
        go_roundw
        case rel => exact ⟨k + 1, by omega, by go_num, by rw [HY.out]; exact hpush.out, hbel⟩
        case measure => simp only [intOf]; omega
      · have HY := hide (memK_no (bs := bs) h1)
        have h0 : bitN g k = 0 := by omega
        rw [h0] at hsh
        clear h1 h0 hb1
        go_wp2
        go_roundw
        case rel => exact ⟨k + 1, by omega, by go_num, by rw [HY.out]; exact hown, hb⟩
        case measure => simp only [intOf]; omega
    · obtain rfl : k = bs.length := by omega
      go_wp2
      go_ret
      exact ⟨_, rfl, hown, hb⟩
theorem take_snoc {zs : List Int} {k : Nat} (h : k < zs.length) : zs.take (k + 1) = zs.take k ++ [zs[k]] := by
  rw [List.take_add_one, List.getElem?_eq_getElem h]; rfl
theorem andL_take {zs : List Int} {k x : Nat} (h : k < zs.length) : andL (zs.take (k + 1)) x = andL (zs.take k) x &&& zs[k].toNat := by rw [take_snoc h, andL_snoc]
theorem orL_take {zs : List Int} {k x : Nat} (h : k < zs.length) : orL (zs.take (k + 1)) x = orL (zs.take k) x ||| zs[k].toNat := by rw [take_snoc h, orL_snoc]
set_option maxHeartbeats 1000000 in
theorem unionOf_any (a : Option Addr) (cap : Nat) (zs : List Int) (w : World) (hi : Ints w a zs) (hl6 : zs.length ≤ 6) (hr : ∀ b ∈ zs, 0 ≤ b ∧ b ≤ 31) :
    Calls Try.prog 75 #[.slice a zs.length cap] w fun e w' => e = .returned (.int .i64 (orL zs 0)) ∧ w = w' := by
  have HR := hide hr
  clear hr
  go_enter Try.func75, Try.ntmps75
  go_wp2
  go_loop [3, 8] (fun o i => ∃ k : Nat, k ≤ zs.length ∧ i = .int .i64 k ∧ o = .int .i64 (orL (zs.take k) 0)) (fun _ i => zs.length - (intOf i).toNat)
  case atStart => exact ⟨0, Nat.zero_le _, rfl, rfl⟩
  case round =>
    obtain ⟨k, hk, rfl, rfl⟩ := hrel
    have hal := orL_lt (zs.take k) (fun b hb => HR.out b (List.mem_of_mem_take hb)) 0 (by omega)
    by_cases hlt : k < zs.length
    · obtain ⟨b, off, rfl, hbl, hc⟩ := hi (by omega)
      have hck := hc k hlt
      have hrk := HR.out _ (mem_of_at hlt)
      rw [getD_lt hlt] at hck
      have HAN := hide (orL_take (x := 0) hlt)
      obtain ⟨y, hy⟩ := Int.eq_ofNat_of_zero_le hrk.1
      rw [hy] at hck HAN
      rw [Int.toNat_natCast] at HAN
      obtain ⟨u, hu⟩ : ∃ u, u = orL (zs.take k) 0 := ⟨_, rfl⟩
      have hand := or_big u y (by omega) (by omega)
      rw [← hu] at hal HAN ⊢
      obtain ⟨v, hv⟩ : ∃ v, v = u ||| y := ⟨_, rfl⟩
      rw [← hv] at hand HAN
      clear hc hi hrk hy hu hv
      go_wp2
      go_round
      case rel => exact ⟨k + 1, by omega, by go_num, by rw [HAN.out]⟩
      case measure => simp only [intOf]; omega
    · obtain rfl : k = zs.length := by omega
      rw [List.take_length]
      go_wp2
      go_ret
      exact ⟨rfl, rfl⟩
set_option maxHeartbeats 2000000 in
theorem isDue_any (m : Nat) (a : Option Addr) (cap : Nat) (zs : List Int) (l n k : Nat) (w : World) (hi : Ints w a zs) (hl6 : zs.length ≤ 6) (hr : ∀ b ∈ zs, 0 ≤ b ∧ b ≤ ((2 ^ m : Nat) : Int) - 1) (hm5 : m ≤ 5) (hl1 : 1 ≤ l) (hl5 : l ≤ 6) (hn1 : 1 ≤ n) (hn6 : n ≤ 6) (hk5 : k ≤ 6) :
    Calls Try.prog 65 #[.slice a zs.length cap, .int .i64 l, .int .i64 n, .int .i64 k] w fun e w' => e = .returned (.bool (dueB zs m n k l)) ∧ w = w' := by
  obtain ⟨A1, hA1⟩ : ∃ A, A = zs.length * k := ⟨_, rfl⟩
  obtain ⟨A2, hA2⟩ : ∃ A, A = l * n := ⟨_, rfl⟩
  have hb1 : A1 ≤ 36 := by rw [hA1]; exact mul30 hl6 hk5
  have hb2 : A2 ≤ 36 := by rw [hA2]; exact mul30 hl5 hn6
  have he1 : (zs.length : Int) * (k : Int) = (A1 : Int) := by rw [hA1, Int.natCast_mul]
  have he2 : (l : Int) * (n : Int) = (A2 : Int) := by rw [hA2, Int.natCast_mul]
  have h2m : 2 ^ m ≤ 2 ^ 5 := Nat.pow_le_pow_right (by omega) hm5
  by_cases hc1 : A1 < A2
  · have HF := hide (due_no1 (ms := zs) (m := m) (n := n) (k := k) (l := l) (by rw [← hA1, ← hA2]; exact hc1))
    clear hA1 hA2
    go_enter Try.func65, Try.ntmps65
    go_wp2
    go_ret
    exact ⟨ret_bool HF.out.symm, rfl⟩
  · have hpos : 0 < zs.length := by
      have h3 : 1 * 1 ≤ l * n := Nat.mul_le_mul hl1 hn1
      rcases Nat.eq_zero_or_pos zs.length with h | h
      · rw [h, Nat.zero_mul] at hA1; omega
      · exact h
    obtain ⟨b, off, rfl, hbl, hc⟩ := hi hpos
    have hc0 := hc 0 hpos
    rw [getD_lt hpos, Nat.add_zero] at hc0
    have hr0 := hr _ (mem_of_at hpos)
    obtain ⟨z0, hz0⟩ := Int.eq_ofNat_of_zero_le hr0.1
    have hz31 : z0 ≤ 31 := by omega
    have HFULL : Hid (andL zs (2 ^ m - 1) = andL zs z0) := by
      unfold Hid
      cases zs with
      | nil => simp at hpos
      | cons c cs =>
        have e : c = (z0 : Int) := hz0
        rw [andL_cons c cs m hr0, e, Int.toNat_natCast]
    have HD : Hid (dueB zs m n k l = decide (l ≤ pc (andL zs z0))) := by
      unfold Hid dueB
      rw [← hA1, ← hA2, HFULL.out]
      by_cases h : l ≤ pc (andL zs z0)
      · rw [decide_eq_true h, decide_eq_true ⟨by omega, h⟩]
      · rw [decide_eq_false h, decide_eq_false (fun hh => h hh.2)]
    rw [hz0] at hc0
    have HC := hide hc
    have HR := hide hr
    clear hA1 hA2 hr hr0 hz0 hc
    go_enter Try.func65, Try.ntmps65
    go_wp2
    go_loop [9, 25] (fun o i => ∃ j : Nat, j ≤ zs.length ∧ i = .int .i64 j ∧ o = .int .i64 (andL (zs.take j) z0)) (fun _ i => zs.length - (intOf i).toNat)
    case atStart => exact ⟨0, Nat.zero_le _, rfl, rfl⟩
    case round =>
      obtain ⟨j, hj, rfl, rfl⟩ := hrel
      have hal := andL_le (zs.take j) z0
      by_cases hlt : j < zs.length
      · have hck := HC.out j hlt
        have hrk := HR.out _ (mem_of_at hlt)
        rw [getD_lt hlt] at hck
        have HAN := hide (andL_take (x := z0) hlt)
        obtain ⟨y, hy⟩ := Int.eq_ofNat_of_zero_le hrk.1
        have hy31 : y ≤ 31 := by omega
        rw [hy] at hck HAN
        rw [Int.toNat_natCast] at HAN
        obtain ⟨u, hu⟩ : ∃ u, u = andL (zs.take j) z0 := ⟨_, rfl⟩
        have hand := and_big u y (by omega) (by omega)
        rw [← hu] at hal HAN ⊢
        obtain ⟨v, hv⟩ : ∃ v, v = u &&& y := ⟨_, rfl⟩
        rw [← hv] at hand HAN
        clear hrk hy hu hv
        go_wp2
        go_round
        case rel => exact ⟨j + 1, by omega, by go_num, by rw [HAN.out]⟩
        case measure => simp only [intOf]; omega
      · obtain rfl : j = zs.length := by omega
        rw [List.take_length] at hal ⊢
        go_wp2_with (go_at_call 63; refine (countOfNames_any _ _ (by omega)).mono ?_; rintro e w' ⟨rfl, rfl⟩)
        go_ret
        exact ⟨ret_bool (by rw [HD.out]), rfl⟩
theorem claimNamed_any (s : ByteArray) (w : World) : Calls Try.prog 40 #[.string s] w fun e w' => e = .returned (.int .i64 (claimN s : Nat)) ∧ w = w' := by
  rcases claim_cases s with ⟨hq, h0⟩ | ⟨hq, h0, h1⟩ | ⟨hq, h0, h1, h2⟩ | ⟨hq, h0, h1, h2⟩
  all_goals
    have HQ := hide hq
    clear hq
    go_enter Try.func40, Try.ntmps40
    go_wp2
    go_ret
    exact ⟨ret_int (by rw [HQ.out]; rfl), rfl⟩
/-- at least l names -/
def geB (l : Nat) (z : Int) : Bool := decide (l ≤ pc z.toNat)
theorem wrongClo_any (l y : Nat) (g : Nat) (w : World) (hy : y < 32) (bx : Box1 w g (.int .i64 (l : Int))) :
    Calls Try.prog 76 #[.int .i64 y, .pointer (some ⟨g, 0, none⟩)] w fun e w' => e = .returned (.bool (geB l y)) ∧ Below w.heap.size w w' := by
  have ⟨_, c0⟩ := bx
  have hp6 := pc_le y
  go_enter Try.func76, Try.ntmps76
  go_wp2
  go_quiet ((go_at_call 63; exact quiet_left (countOfNames_any _ _ hy)))
  go_wp2
  go_ret
  exact ⟨ret_bool (by unfold geB; rw [Int.toNat_natCast]), belN _ _⟩
/-- What slices.IndexFunc leaves, with a test p. -/
def IdxPostWro (p : Int → Bool) (zs : List Int) (w : World) (e : Ending) (w' : World) : Prop :=
  ∃ r : Int, ((zs.any p = true ∧ 0 ≤ r) ∨ (zs.any p = false ∧ r = -1)) ∧ r ≤ 1048576 ∧ e = .returned (.int .i64 r) ∧ Below w.heap.size w w'

set_option maxHeartbeats 1000000 in
theorem indexFuncWro_any (p : Int → Bool) (a : Option Addr) (cap : Nat) (g : Nat) (zs : List Int) (w : World) (hi : Ints w a zs) (hn : zs.length ≤ 1048576)
    (hf : ∀ (x : Int) (w' : World), x ∈ zs → Below w.heap.size w w' → Calls Try.prog 76 #[.int .i64 x, .pointer (some ⟨g, 0, none⟩)] w' fun e w'' => e = .returned (.bool (p x)) ∧ Below w'.heap.size w' w'') :
    Calls Try.prog 68 #[.slice a zs.length cap, .func (.func 76) #[] #[.pointer (some ⟨g, 0, none⟩)]] w (IdxPostWro p zs w) := by
  have HF := hide hf
  clear hf
  go_enter Try.func68, Try.ntmps68
  go_wp2_with fail
  go_loopw [8] (fun i wr => ∃ k : Nat, k ≤ zs.length ∧ i = .int .i64 k ∧ (∀ j, j < k → p (zs.getD j 0) = false) ∧ Below w.heap.size w wr) (fun i _ => zs.length - (intOf i).toNat)
  case atStart => exact ⟨0, Nat.zero_le _, rfl, fun j hj => by omega, Below.refl _ _⟩
  case round =>
    obtain ⟨k, hk, rfl, hall, hb⟩ := hrel
    have HA := hide hall
    clear hall
    by_cases hlt : k < zs.length
    · obtain ⟨bb, off, rfl, hbl, hc⟩ := (hi.below hb) (by omega)
      have hck := hc k hlt
      rw [getD_lt hlt] at hck
      clear hc hi
      by_cases he : p zs[k] = true
      · have HF2 := hide (any_true hlt he)
        have HE := hide he
        clear he
        go_wp2_with fail
        refine (HF.out _ _ (mem_of_at hlt) hb).mono ?_
        rintro e w1 ⟨rfl, h1⟩
        have he := HE.out
        go_wp2
        go_ret
        exact ⟨k, .inl ⟨HF2.out, by omega⟩, by omega, rfl, bnext hb h1⟩
      · have he : p zs[k] = false := by simpa using he
        have HE := hide he
        clear he
        go_wp2_with fail
        refine (HF.out _ _ (mem_of_at hlt) hb).mono ?_
        rintro e w1 ⟨rfl, h1⟩
        have he := HE.out
        go_wp2
        go_roundw
        case rel => exact ⟨k + 1, by omega, by go_num, fun j hj => by
          rcases Nat.lt_or_ge j k with h | h
          · exact HA.out j h
          · obtain rfl : j = k := by omega
            rw [getD_lt hlt]
            exact HE.out, bnext hb h1⟩
        case measure => simp only [intOf]; omega
    · obtain rfl : k = zs.length := by omega
      go_wp2
      go_ret
      exact ⟨-1, .inr ⟨any_false HA.out, rfl⟩, by omega, rfl, hb⟩

set_option maxHeartbeats 1000000 in
theorem containsFuncWro_any (p : Int → Bool) (a : Option Addr) (cap : Nat) (g : Nat) (zs : List Int) (w : World) (hi : Ints w a zs) (hn : zs.length ≤ 1048576)
    (hf : ∀ (x : Int) (w' : World), x ∈ zs → Below w.heap.size w w' → Calls Try.prog 76 #[.int .i64 x, .pointer (some ⟨g, 0, none⟩)] w' fun e w'' => e = .returned (.bool (p x)) ∧ Below w'.heap.size w' w'') :
    Calls Try.prog 50 #[.slice a zs.length cap, .func (.func 76) #[] #[.pointer (some ⟨g, 0, none⟩)]] w fun e w' => e = .returned (.bool (zs.any p)) ∧ Below w.heap.size w w' := by
  have HF := hide hf
  clear hf
  by_cases hm : zs.any p = true
  · have HM := hide hm
    clear hm
    go_enter Try.func50, Try.ntmps50
    go_wp2_with fail
    refine (indexFuncWro_any p _ _ _ _ _ hi hn HF.out).mono ?_
    rintro e w' ⟨r, hr, hr2, rfl, hb⟩
    have h0 : 0 ≤ r := by
      rcases hr with ⟨_, h⟩ | ⟨h, _⟩
      · exact h
      · rw [HM.out] at h; cases h
    clear hr
    go_wp2
    go_ret
    exact ⟨ret_bool HM.out.symm, hb⟩
  · have hm : zs.any p = false := by simpa using hm
    have HM := hide hm
    clear hm
    go_enter Try.func50, Try.ntmps50
    go_wp2_with fail
    refine (indexFuncWro_any p _ _ _ _ _ hi hn HF.out).mono ?_
    rintro e w' ⟨r, hr, hr2, rfl, hb⟩
    have h0 : r < 0 := by
      rcases hr with ⟨h, _⟩ | ⟨_, h⟩
      · rw [HM.out] at h; cases h
      · omega
    clear hr
    go_wp2
    go_ret
    exact ⟨ret_bool (by rw [HM.out]; simp; omega), hb⟩

theorem band_range {x : Nat} (hx : x < 32) (ms : List Int) : ∀ z ∈ ms.map (bandI x), 0 ≤ z ∧ z ≤ 31 := by
  intro z hz
  obtain ⟨b, _, rfl⟩ := List.mem_map.1 hz
  have := and_lt b x hx
  unfold bandI
  omega
theorem wrong_one {ms : List Int} {l x : Nat} (hx : x < 32) : wrongB 1 ms l x = decide (l = 1 ∧ orL (ms.map (bandI x)) 0 = 0) := by
  unfold wrongB
  rw [if_pos rfl]
  have h : mostL ms x 0 = 0 ↔ orL (ms.map (bandI x)) 0 = 0 := by
    have h1 := mostL_lt ms x 1 0
    have h2 := orL_zero (ms.map (bandI x)) 0
    rw [h2]
    constructor
    · intro h
      have h3 := (h1.1 (by omega)).2
      refine ⟨rfl, fun z hz => ?_⟩
      obtain ⟨b, hb, rfl⟩ := List.mem_map.1 hz
      have h4 := h3 b hb
      unfold bandI
      rw [Int.toNat_natCast]
      exact (pc_zero_iff _ (and_lt b x hx)).1 (by omega)
    · intro h
      have h4 := h1.2 ⟨by omega, fun b hb => by
        have h5 := h.2 _ (List.mem_map.2 ⟨b, hb, rfl⟩)
        unfold bandI at h5
        rw [Int.toNat_natCast] at h5
        rw [h5]; decide⟩
      omega
  by_cases hl : l = 1 ∧ mostL ms x 0 = 0
  · rw [decide_eq_true hl, decide_eq_true ⟨hl.1, h.1 hl.2⟩]
  · rw [decide_eq_false hl, decide_eq_false (fun hh => hl ⟨hh.1, h.2 hh.2⟩)]
theorem wrong_two {ms : List Int} {l x : Nat} : wrongB 2 ms l x = decide (pc (orL (ms.map (bandI x)) 0) < l) := by
  unfold wrongB
  rw [if_neg (by decide), if_pos rfl, orL_band0]
theorem wrong_three {ms : List Int} {l x : Nat} (hl : 1 ≤ l) : wrongB 3 ms l x = !((ms.map (bandI x)).any (geB l)) := by
  unfold wrongB
  rw [if_neg (by decide), if_neg (by decide)]
  have h1 := mostL_lt ms x l 0
  by_cases h : mostL ms x 0 < l
  · rw [decide_eq_true h]
    symm
    rw [Bool.not_eq_true', List.any_eq_false]
    intro z hz
    obtain ⟨b, hb, rfl⟩ := List.mem_map.1 hz
    have := (h1.1 h).2 b hb
    unfold geB bandI
    rw [Int.toNat_natCast]
    simp
    omega
  · rw [decide_eq_false h]
    symm
    rw [Bool.not_eq_false', List.any_eq_true]
    apply Classical.byContradiction
    intro hno
    apply h
    refine h1.2 ⟨by omega, fun b hb => ?_⟩
    apply Classical.byContradiction
    intro hb2
    exact hno ⟨bandI x b, List.mem_map.2 ⟨b, hb, rfl⟩, by unfold geB bandI; rw [Int.toNat_natCast]; exact decide_eq_true (by omega)⟩

set_option maxHeartbeats 2000000 in
theorem wrongs_any (q : Nat) (hq : 1 ≤ q ∧ q ≤ 3) (a : Option Addr) (cap : Nat) (ms : List Int) (l x : Nat) (w : World) (hi : Ints w a ms) (hl6 : ms.length ≤ 6) (hr : ∀ b ∈ ms, 0 ≤ b ∧ b ≤ 31) (hl1 : 1 ≤ l) (hx : x < 32) :
    Calls Try.prog 66 #[.int .i64 q, .slice a ms.length cap, .int .i64 l, .int .i64 x] w fun e w' => e = .returned (.bool (wrongB q ms l x)) ∧ Below w.heap.size w w' := by
  have HR := hide hr
  have HB := hide (band_range hx ms)
  have hml : (ms.map (bandI x)).length = ms.length := List.length_map _
  clear hr
  have bx0 := Box1.new w (.int .i64 (l : Int)) 3
  have B1 := bel1 w (.cells #[.int .i64 (l : Int)] 3)
  have hi1 := hi.below B1
  have HBX := hide bx0
  clear bx0 hi
  rcases (show q = 1 ∨ q = 2 ∨ q = 3 from by omega) with rfl | rfl | rfl
  · have HW := hide (wrong_one (ms := ms) (l := l) hx)
    by_cases hl : l = 1
    · have hle : ((l : Int) == 1) = true := by rw [hl]; rfl
      have HL := hide hl
      clear hl
      go_enter Try.func66, Try.ntmps66
      go_wp2_with fail
      refine (within_any _ _ _ _ _ hi1 (by omega) HR.out hx).mono ?_
      rintro e w2 ⟨rfl, own, hb2⟩
      simp only [World.size_alloc] at own
      have iz := own.ints
      have ⟨_, cx⟩ := HBX.out.below hb2
      obtain ⟨zs, hzs⟩ : ∃ zs, zs = ms.map (bandI x) := ⟨_, rfl⟩
      rw [← hzs] at iz HB HW hml
      have HZS := hide hzs
      rw [← hml]
      have hzl : zs.length ≤ 6 := by omega
      have HML := hide hml
      clear own hzs hml
      go_wp2_with (go_at_call 75; (with_reducible refine (unionOf_any _ _ _ _ iz hzl HB.out).mono ?_); rintro e w' ⟨rfl, rfl⟩)
      go_ret
      exact ⟨ret_bool (by
        rw [HW.out]
        by_cases h : orL zs 0 = 0
        · rw [decide_eq_true ⟨HL.out, h⟩, h]; rfl
        · rw [decide_eq_false (fun hh => h hh.2)]; simp; omega), bnext B1 hb2⟩
    · have hle : ((l : Int) == 1) = false := by simp; omega
      have HL := hide hl
      clear hl
      go_enter Try.func66, Try.ntmps66
      go_wp2_with fail
      refine (within_any _ _ _ _ _ hi1 (by omega) HR.out hx).mono ?_
      rintro e w2 ⟨rfl, own, hb2⟩
      simp only [World.size_alloc] at own
      have ⟨_, cx⟩ := HBX.out.below hb2
      go_wp2
      go_ret
      exact ⟨ret_bool (by rw [HW.out, decide_eq_false (fun h => HL.out h.1)]), bnext B1 hb2⟩
  · have HW := hide (wrong_two (ms := ms) (l := l) (x := x))
    have horl := orL_lt (ms.map (bandI x)) HB.out 0 (by omega)
    go_enter Try.func66, Try.ntmps66
    go_wp2_with fail
    refine (within_any _ _ _ _ _ hi1 (by omega) HR.out hx).mono ?_
    rintro e w2 ⟨rfl, own, hb2⟩
    simp only [World.size_alloc] at own
    have iz := own.ints
    have ⟨_, cx⟩ := HBX.out.below hb2
    obtain ⟨zs, hzs⟩ : ∃ zs, zs = ms.map (bandI x) := ⟨_, rfl⟩
    rw [← hzs] at iz HB HW hml horl
    have HZS := hide hzs
    rw [← hml]
    have hzl : zs.length ≤ 6 := by omega
    have hpo := pc_le (orL zs 0)
    have HML := hide hml
    clear own hzs hml
    go_wp2
    go_quiet ((first | (go_at_call 75; exact quiet_left (unionOf_any _ _ _ _ (iz.below (belN _ _)) hzl HB.out)) | (go_at_call 63; exact quiet_left (countOfNames_any _ _ horl))))
    go_wp2
    go_ret
    exact ⟨ret_bool (by rw [HW.out]), bnext (bnext B1 hb2) (belN _ _)⟩
  · have HW := hide (wrong_three (ms := ms) (l := l) (x := x) hl1)
    go_enter Try.func66, Try.ntmps66
    go_wp2_with fail
    refine (within_any _ _ _ _ _ hi1 (by omega) HR.out hx).mono ?_
    rintro e w2 ⟨rfl, own, hb2⟩
    simp only [World.size_alloc] at own
    have iz := own.ints
    obtain ⟨zs, hzs⟩ : ∃ zs, zs = ms.map (bandI x) := ⟨_, rfl⟩
    rw [← hzs] at iz HB HW hml
    have HZS := hide hzs
    rw [← hml]
    have hzl : zs.length ≤ 6 := by omega
    have HML := hide hml
    clear own hzs hml
    go_wp2_with fail
    refine (containsFuncWro_any (geB l) _ _ _ _ _ iz (by omega) (fun z w' hz hb' => by
      obtain ⟨y, rfl⟩ := Int.eq_ofNat_of_zero_le (HB.out z hz).1
      exact wrongClo_any l y _ _ (by have := (HB.out _ hz).2; omega) ((HBX.out.below hb2).below hb'))).mono ?_
    rintro e w3 ⟨rfl, hb3⟩
    go_wp2
    go_ret
    exact ⟨ret_bool HW.out.symm, bnext (bnext B1 hb2) hb3⟩
end Go.Proofs.Ythkikjidkehheaa
