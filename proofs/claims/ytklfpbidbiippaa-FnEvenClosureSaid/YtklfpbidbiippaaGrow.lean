/- The model's least closed spaces. -/
import Derived.Test.YtklfpbidbiippaaClo
import Derived.Deep.QuietTactic
import Derived.BigQuiet
import Derived.OwnWalk
namespace Go.Proofs.Ytklfpbidbiippaa
open Go.RowKit Go.Joins

def E1 (f : Nat → Nat → Nat → Nat) (ls : List Int) (x i : Nat) : Prop := ∃ i0 j k, i0 < i ∧ j < ls.length ∧ k < ls.length ∧ x = f (zN ls i0) (zN ls j) (zN ls k)
def E2 (f : Nat → Nat → Nat → Nat) (ls : List Int) (x i j : Nat) : Prop := E1 f ls x i ∨ ∃ j0 k, j0 < j ∧ k < ls.length ∧ x = f (zN ls i) (zN ls j0) (zN ls k)
def E3 (f : Nat → Nat → Nat → Nat) (ls : List Int) (x i j k : Nat) : Prop := E2 f ls x i j ∨ ∃ k0, k0 < k ∧ x = f (zN ls i) (zN ls j) (zN ls k0)
section
variable {f : Nat → Nat → Nat → Nat} {ls : List Int} {x i j k : Nat}
theorem e1_zero : ¬ E1 f ls x 0 := by
  rintro ⟨i0, j, k, h, _⟩
  omega
theorem e2_zero : E2 f ls x i 0 ↔ E1 f ls x i := by
  constructor
  · rintro (h | ⟨j0, k, h, _⟩)
    · exact h
    · omega
  · exact .inl
theorem e3_zero : E3 f ls x i j 0 ↔ E2 f ls x i j := by
  constructor
  · rintro (h | ⟨k0, h, _⟩)
    · exact h
    · omega
  · exact .inl
theorem e3_step : E3 f ls x i j (k + 1) ↔ (E3 f ls x i j k ∨ x = f (zN ls i) (zN ls j) (zN ls k)) := by
  constructor
  · rintro (h | ⟨k0, h, e⟩)
    · exact .inl (.inl h)
    · rcases Nat.lt_or_ge k0 k with h1 | h1
      · exact .inl (.inr ⟨k0, h1, e⟩)
      · obtain rfl : k0 = k := by omega
        exact .inr e
  · rintro ((h | ⟨k0, h, e⟩) | e)
    · exact .inl h
    · exact .inr ⟨k0, by omega, e⟩
    · exact .inr ⟨k, by omega, e⟩
theorem e3_end : E3 f ls x i j ls.length ↔ E2 f ls x i (j + 1) := by
  constructor
  · rintro ((h | ⟨j0, k, h, h2, e⟩) | ⟨k0, h, e⟩)
    · exact .inl h
    · exact .inr ⟨j0, k, by omega, h2, e⟩
    · exact .inr ⟨j, k0, by omega, h, e⟩
  · rintro (h | ⟨j0, k, h, h2, e⟩)
    · exact .inl (.inl h)
    · rcases Nat.lt_or_ge j0 j with h1 | h1
      · exact .inl (.inr ⟨j0, k, h1, h2, e⟩)
      · obtain rfl : j0 = j := by omega
        exact .inr ⟨k, h2, e⟩
theorem e2_end : E2 f ls x i ls.length ↔ E1 f ls x (i + 1) := by
  constructor
  · rintro (⟨i0, j, k, h, h2, h3, e⟩ | ⟨j0, k, h, h2, e⟩)
    · exact ⟨i0, j, k, by omega, h2, h3, e⟩
    · exact ⟨i, j0, k, by omega, h, h2, e⟩
  · rintro ⟨i0, j, k, h, h2, h3, e⟩
    rcases Nat.lt_or_ge i0 i with h1 | h1
    · exact .inl ⟨i0, j, k, h1, h2, h3, e⟩
    · obtain rfl : i0 = i := by omega
      exact .inr ⟨j, k, h2, h3, e⟩
end
theorem e1_all (f : Nat → Nat → Nat → Nat) (J : Join f) {ls : List Int} (hJ : JL ls) (x : Nat) : E1 f ls x ls.length ↔ (joined f (ls.map Int.toNat)).contains x = true := by
  have hz : ∀ i, i < ls.length → (ls.map Int.toNat).getD i 0 = zN ls i := fun i hi => by
    unfold zN
    simp [List.getD_eq_getElem?_getD, hi]
  rw [List.contains_iff_mem, mem_joined J _ hJ.lt]
  unfold E1 Any3
  rw [List.length_map]
  constructor
  · rintro ⟨i, j, k, h, h2, h3, e⟩
    exact ⟨i, j, k, h, h2, h3, by rw [hz i h, hz j h2, hz k h3]; exact e⟩
  · rintro ⟨i, j, k, h, h2, h3, e⟩
    exact ⟨i, j, k, h, h2, h3, by rw [← hz i h, ← hz j h2, ← hz k h3]; exact e⟩
theorem jl_at {ls : List Int} (h : JL ls) {i : Nat} (hi : i < ls.length) : ls[i] = (zN ls i : Int) ∧ zN ls i < 16 := by
  have := h.1 _ (mem_of_at hi)
  unfold zN
  rw [getD_lt hi]
  constructor
  · rw [Int.toNat_of_nonneg this.1]
  · omega
/-- the next list so far -/
def growL (f : Nat → Nat → Nat → Nat) (ls : List Int) (t : Nat) : List Int := ((List.range t).filter fun x => (joined f (ls.map Int.toNat)).contains x).map fun (u : Nat) => (u : Int)
theorem growL_len (f : Nat → Nat → Nat → Nat) (ls : List Int) (t : Nat) : (growL f ls t).length ≤ t := by
  unfold growL
  rw [List.length_map]
  exact Nat.le_trans (List.length_filter_le _ _) (by simp)
theorem growL_all (f : Nat → Nat → Nat → Nat) (ls : List Int) (n : Nat) (h : ∀ x ∈ joined f (ls.map Int.toNat), x < n) : growL f ls n = joinL f ls := by
  unfold growL joinL
  rw [asc_range_filter _ n (joined_asc f _) h]
theorem growL_yes {f : Nat → Nat → Nat → Nat} {ls : List Int} {t : Nat} (h : (joined f (ls.map Int.toNat)).contains t = true) : growL f ls (t + 1) = growL f ls t ++ [(t : Int)] := by
  unfold growL
  rw [range_filter, if_pos h]
theorem growL_no {f : Nat → Nat → Nat → Nat} {ls : List Int} {t : Nat} (h : (joined f (ls.map Int.toNat)).contains t = false) : growL f ls (t + 1) = growL f ls t := by
  unfold growL
  rw [range_filter, if_neg (by rw [h]; decide), List.append_nil]
theorem med_lt (n x y z : Nat) (_hx : x < 2 ^ n) (hy : y < 2 ^ n) (hz : z < 2 ^ n) : med x y z < 2 ^ n :=
  Nat.or_lt_two_pow (Nat.or_lt_two_pow (Nat.and_lt_two_pow _ hy) (Nat.and_lt_two_pow _ hz)) (Nat.and_lt_two_pow _ hz)
theorem par_lt (n x y z : Nat) (hx : x < 2 ^ n) (hy : y < 2 ^ n) (hz : z < 2 ^ n) : par x y z < 2 ^ n :=
  Nat.xor_lt_two_pow (Nat.xor_lt_two_pow hx hy) hz
theorem joined_below {f : Nat → Nat → Nat → Nat} (J : Join f) (n : Nat) (hf : ∀ x y z, x < 2 ^ n → y < 2 ^ n → z < 2 ^ n → f x y z < 2 ^ n) {l : List Nat} (h16 : ∀ x ∈ l, x < 16) (h : ∀ x ∈ l, x < 2 ^ n) : ∀ x ∈ joined f l, x < 2 ^ n := fun x hx => by
  obtain ⟨i, j, k, hi, hj, hk, rfl⟩ := (mem_joined J l h16 x).1 hx
  exact hf _ _ _ (h _ (mem_getD hi)) (h _ (mem_getD hj)) (h _ (mem_getD hk))
theorem grow_median_any (x y z : Nat) (w : World) (hx : x < 16) (hy : y < 16) (hz : z < 16) : Calls Try.prog 142 #[.int .i64 x, .int .i64 y, .int .i64 z] w fun e w' => e = .returned (.int .i64 (med x y z : Nat)) ∧ w = w' := by
  have h1 := and_small x y hx hy
  have h2 := and_small x z hx hz
  have h3 := and_small y z hy hz
  have l1 : x &&& y < 16 := Nat.and_lt_two_pow (n := 4) _ hy
  have l2 : x &&& z < 16 := Nat.and_lt_two_pow (n := 4) _ hz
  have l3 : y &&& z < 16 := Nat.and_lt_two_pow (n := 4) _ hz
  have h4 := or_small _ _ l1 l2
  have h5 := or_small (x &&& y ||| x &&& z) (y &&& z) (Nat.or_lt_two_pow (n := 4) l1 l2) l3
  go_enter Try.func142, Try.ntmps142
  go_wp2
  go_ret
  exact ⟨rfl, rfl⟩
/-- how much a space in a variable lacks -/
def lackAt (w : World) (g : Nat) : Nat := match w.cell? ⟨g, 1, none⟩ with
  | some v => lack v
  | none => 0

set_option maxHeartbeats 8000000 in
set_option maxRecDepth 100000 in
theorem growEven_any (m : Nat) (a : Option Addr) (cap : Nat) (zs : List Int) (w : World) (hi : Ints w a zs) (hV : Valid (m : Int) zs) :
    Calls Try.prog 87 #[.agg #[.int .i64 m, .slice a zs.length cap], .bool true] w (GivesS m (cloT par zs) w) := by
  obtain ⟨i0, hi0, hz0, hz1, hz2⟩ := info_parts info_int
  have h4 : m ≤ 4 := by have := hV.1.2; omega
  have S0 := RV.new w m a zs cap hi
  have hblk0 : ((w.alloc (.cells #[.int .i64 m, .slice a zs.length cap] 25)).alloc (.cells #[.int .i64 0, .slice none 0 0] 25)).heap[w.heap.size]? = some (.cells #[.int .i64 m, .slice a zs.length cap] 25 (0, 0)) :=
    ((bel1 (w.alloc (.cells #[.int .i64 m, .slice a zs.length cap] 25)) _).block w.heap.size (by simp)).trans (heap_alloc_new w _)
  have HJ0 := hide (JL.valid hV)
  have hp2 : pw (m : Int) = ((2 ^ m : Nat) : Int) := by unfold pw; rw [Int.toNat_natCast]
  have HL0 : Hid (∀ x ∈ zs.map Int.toNat, x < 2 ^ m) := fun x hx => by
    obtain ⟨y, hy, rfl⟩ := List.mem_map.1 hx
    obtain ⟨i, hi, rfl⟩ := List.getElem_of_mem hy
    have := (hV.2.2 i hi).1
    rw [getD_lt hi] at this
    omega
  have hq : 2 ^ m ≤ 2 ^ 4 := Nat.pow_le_pow_right (by omega) h4
  obtain ⟨q, hqq⟩ : ∃ q, q = 2 ^ m := ⟨_, rfl⟩
  rw [← hqq] at hp2 hq HL0
  have HQ := hide hqq
  clear hi hV hqq
  go_enter Try.func87, Try.ntmps87
  go_wp2_with fail
  go_loopw [6] (fun _ wr => ∃ (ls : List Int) (a' : Option Addr) (cap' : Nat), wr.heap[w.heap.size]? = some (.cells #[.int .i64 m, .slice a' ls.length cap'] 25 (0, 0)) ∧ Ints wr a' ls ∧ JL ls ∧ (∀ x ∈ ls.map Int.toNat, x < q) ∧ cloT par ls = cloT par zs ∧
      wr.heap[w.heap.size + 1]? = some (.cells #[.int .i64 0, .slice none 0 0] 25 (0, 0)) ∧ Below w.heap.size w wr) (fun _ wr => lackAt wr w.heap.size)
  case atStart => exact ⟨zs, a, cap, hblk0, S0.2.1, HJ0.out, HL0.out, rfl, S0.2.2.1, S0.2.2.2⟩
  case round =>
    clear S0 hblk0
    obtain ⟨ls, a', cap', hbx, il, hJ, hlt, hT, hres, BR⟩ := hrel
    have HJ := hide hJ
    have HLT := hide hlt
    have HT := hide hT
    have h16 := hJ.2.2
    have HRES := hide hres
    have HBX := hide hbx
    have hlim : lackAt wr w.heap.size = 16 - ls.length := by
      unfold lackAt
      rw [cell_of_block hbx 1]
      rfl
    have HLIM := hide hlim
    have c0 := cell_of_block hbx 0
    have c1 := cell_of_block hbx 1
    have hbl0 := lt_of_block hbx
    have hbl1 := lt_of_block hres
    obtain ⟨wo, hwo⟩ : ∃ wo : World, wo = wr := ⟨_, rfl⟩
    subst hwo
    have hnew := heap_alloc_new wo (.cells #[.int .i64 m, .slice none 0 0] 25)
    have hBn := bel1 wo (.cells #[.int .i64 m, .slice none 0 0] 25)
    clear hJ hlt hT hres hbx hlim
    go_wp2_with fail
    go_loopw [6] (fun v wq => ∃ (t : Nat) (vv : Value), t ≤ q ∧ v = .int .i64 t ∧ wq.heap[wo.heap.size]? = some (.cells #[.int .i64 m, vv] 25 (0, 0)) ∧ Owns wq (wo.heap.size + 1) vv (growL par ls t) ∧ Below wo.heap.size wo wq) (fun v _ => q - (intOf v).toNat)
    case atStart => exact ⟨0, _, Nat.zero_le _, rfl, hnew, World.ownsRow_nil _ _ _ _, hBn⟩
    case round =>
      clear hnew hBn c0 c1
      obtain ⟨t, vv, ht, rfl, hnb, hown, BQ⟩ := hrel
      have ilq := il.below BQ
      have c0 := (BQ.cell (p := ⟨w.heap.size, 0, none⟩) hbl0).trans (cell_of_block HBX.out 0)
      have c1 := (BQ.cell (p := ⟨w.heap.size, 1, none⟩) hbl0).trans (cell_of_block HBX.out 1)
      have HNB := hide hnb
      have HOWN := hide hown
      clear hnb hown
      by_cases hlt : t < q
      · obtain ⟨W, hW⟩ : ∃ W : World, W = wr := ⟨_, rfl⟩
        subst hW
        go_wp2_with (go_at_call 98; refine (power_any _ _ (by omega) (by omega)).mono ?_; rintro e w' ⟨rfl, rfl⟩)
        clear c0 c1
        go_loopw [7, 8] (fun b v wq => ∃ (i : Nat) (B : Bool), i ≤ ls.length ∧ v = .int .i64 i ∧ b = .bool B ∧ (B = true ↔ E1 par ls t i) ∧ Below W.heap.size W wq) (fun _ v _ => ls.length - (intOf v).toNat)
        case atStart => exact ⟨0, false, Nat.zero_le _, rfl, rfl, ⟨fun h => (by cases h), fun h => absurd h e1_zero⟩, Below.refl _ _⟩
        case round =>
          obtain ⟨i, B, hil, rfl, rfl, hB, BI⟩ := hrel
          have ili := ilq.below BI
          have hwl : w.heap.size < W.heap.size := Nat.lt_of_lt_of_le hbl0 BQ.size
          have HB := hide hB
          have BQI := bnext BQ BI
          have c0 := (BQI.cell (p := ⟨w.heap.size, 0, none⟩) hbl0).trans (cell_of_block HBX.out 0)
          have c1 := (BQI.cell (p := ⟨w.heap.size, 1, none⟩) hbl0).trans (cell_of_block HBX.out 1)
          clear hB
          by_cases hli : i < ls.length
          · go_wp2
            clear c0 c1
            go_loopw [7, 9] (fun b v wq => ∃ (j : Nat) (B : Bool), j ≤ ls.length ∧ v = .int .i64 j ∧ b = .bool B ∧ (B = true ↔ E2 par ls t i j) ∧ Below W.heap.size W wq) (fun _ v _ => ls.length - (intOf v).toNat)
            case atStart => exact ⟨0, B, Nat.zero_le _, rfl, rfl, HB.out.trans e2_zero.symm, BI⟩
            case round =>
              clear HB BI ili BQI
              obtain ⟨j, B, hjl, rfl, rfl, hB, BI⟩ := hrel
              have ili := ilq.below BI
              have HB := hide hB
              have BQI := bnext BQ BI
              have c0 := (BQI.cell (p := ⟨w.heap.size, 0, none⟩) hbl0).trans (cell_of_block HBX.out 0)
              have c1 := (BQI.cell (p := ⟨w.heap.size, 1, none⟩) hbl0).trans (cell_of_block HBX.out 1)
              clear hB
              by_cases hlj : j < ls.length
              · go_wp2
                clear c0 c1
                go_loopw [7, 10] (fun b v wq => ∃ (k : Nat) (B : Bool), k ≤ ls.length ∧ v = .int .i64 k ∧ b = .bool B ∧ (B = true ↔ E3 par ls t i j k) ∧ Below W.heap.size W wq) (fun _ v _ => ls.length - (intOf v).toNat)
                case atStart => exact ⟨0, B, Nat.zero_le _, rfl, rfl, HB.out.trans e3_zero.symm, BI⟩
                case round =>
                  clear HB BI ili BQI
                  obtain ⟨k, B, hkl, rfl, rfl, hB, BI⟩ := hrel
                  have ili := ilq.below BI
                  have HB := hide hB
                  have BQI := bnext BQ BI
                  have c0 := (BQI.cell (p := ⟨w.heap.size, 0, none⟩) hbl0).trans (cell_of_block HBX.out 0)
                  have c1 := (BQI.cell (p := ⟨w.heap.size, 1, none⟩) hbl0).trans (cell_of_block HBX.out 1)
                  clear hB
                  by_cases hlk : k < ls.length
                  · obtain ⟨bb, off, rfl, hbl, hc⟩ := ili (by omega)
                    have hxi := hc i hli
                    have hxj := hc j hlj
                    have hxk := hc k hlk
                    rw [getD_lt hli, (jl_at HJ.out hli).1] at hxi
                    rw [getD_lt hlj, (jl_at HJ.out hlj).1] at hxj
                    rw [getD_lt hlk, (jl_at HJ.out hlk).1] at hxk
                    have l1 := (jl_at HJ.out hli).2
                    have l2 := (jl_at HJ.out hlj).2
                    have l3 := (jl_at HJ.out hlk).2
                    clear hc
                    cases B with
                    | true =>
                      go_wp2
                      go_quiet (fail)
                      go_wp2
                      go_roundw
                      case rel => exact ⟨k + 1, true, by omega, by go_num, rfl, ⟨fun _ => e3_step.2 (.inl (HB.out.1 (by simp))), fun _ => rfl⟩, bnext BI (belN _ _)⟩
                      case measure => simp only [intOf]; omega
                    | false =>
                      have x1 := xor_small (zN ls i) (zN ls j) l1 l2
                      have x2 := xor_small (zN ls i ^^^ zN ls j) (zN ls k) (Nat.xor_lt_two_pow (n := 4) l1 l2) l3
                      have x3 : bits .xor .i64 ((zN ls i ^^^ zN ls j : Nat) : Int) (zN ls k) = ((par (zN ls i) (zN ls j) (zN ls k) : Nat) : Int) := x2
                      clear x2
                      by_cases he : t = par (zN ls i) (zN ls j) (zN ls k)
                      · have hE : (((par (zN ls i) (zN ls j) (zN ls k) : Nat) : Int) == (t : Int)) = true := by rw [beq_iff_eq]; omega
                        have HE := hide he
                        clear he
                        go_wp2
                        go_quiet (fail)
                        go_wp2
                        go_roundw
                        case rel => exact ⟨k + 1, true, by omega, by go_num, rfl, ⟨fun _ => e3_step.2 (.inr HE.out), fun _ => rfl⟩, bnext BI (belN _ _)⟩
                        case measure => simp only [intOf]; omega
                      · have hE : (((par (zN ls i) (zN ls j) (zN ls k) : Nat) : Int) == (t : Int)) = false := by rw [beq_eq_false_iff_ne]; omega
                        have HE := hide he
                        clear he
                        go_wp2
                        go_quiet (fail)
                        go_wp2
                        go_roundw
                        case rel => exact ⟨k + 1, false, by omega, by go_num, rfl, ⟨fun h => (by cases h), fun h => by
                          rcases e3_step.1 h with h | h
                          · exact HB.out.2 h
                          · exact absurd h HE.out⟩, bnext BI (belN _ _)⟩
                        case measure => simp only [intOf]; omega
                  · obtain rfl : k = ls.length := by omega
                    go_wp2
                    go_roundw
                    case rel => exact ⟨j + 1, B, by omega, by go_num, rfl, HB.out.trans e3_end, BI⟩
                    case measure => simp only [intOf]; omega
              · obtain rfl : j = ls.length := by omega
                go_wp2
                go_roundw
                case rel => exact ⟨i + 1, B, by omega, by go_num, rfl, HB.out.trans e2_end, BI⟩
                case measure => simp only [intOf]; omega
          · obtain rfl : i = ls.length := by omega
            have hall := HB.out.trans (e1_all par join_par HJ.out t)
            have hnb := (BI.block _ (lt_of_block HNB.out)).trans HNB.out
            have hown := HOWN.out.below BI
            have hgl := growL_len par ls t
            cases B with
            | false =>
              have hno : (joined par (ls.map Int.toNat)).contains t = false := by
                cases h : (joined par (ls.map Int.toNat)).contains t
                · rfl
                · exact absurd (hall.2 h) (by decide)
              have HNO := hide (growL_no hno)
              have HN2 := hide hnb
              have HO2 := hide hown
              clear hall hno hnb hown
              go_wp2
              go_roundw
              case rel => exact ⟨t + 1, vv, by omega, by go_num, HN2.out, by rw [HNO.out]; exact HO2.out, BQI⟩
              case measure => simp only [intOf]; omega
            | true =>
              have HYES := hide (growL_yes (hall.1 rfl))
              have g1 := cell_of_block hnb 1
              have f1 := unfrozen_of_block hnb 1
              have HN2 := hide hnb
              have hsz := BQI.size
              have hnl := lt_of_block hnb
              clear hall hnb
              go_wp2_with ((at_builtin; refine wpList_append_own _ rfl _ _ 23 rfl (wo.heap.size + 1) 3 i0 (.int .i64 0) 1 8 Try.underlying23 hi0 hz0 hz1 hz2 rfl (by decide) _ _ _ rfl (hown.alloc _) ⟨wr.heap.size, 0, none⟩ 1 1 [.int .i64 t] rfl rfl ?c1 ?c2 ?c3 ?c4 ?c5 ?_))
              case c2 => rfl
              case c3 => unfold maxLen; omega
              case c4 => omega
              intro v' w5 hown' hgrow _
              have hpush0 := Owns.push hown'
              obtain ⟨zz, hzz⟩ : ∃ zz : List Int, zz = growL par ls t ++ [(t : Int)] := ⟨_, rfl⟩
              rw [← hzz] at hpush0
              have HZZ := hide (HYES.out.trans hzz.symm)
              clear hzz hown'
              obtain ⟨av', cv', rfl, _, _⟩ := hpush0.form
              have hpush := hide hpush0
              have hb5 : Below (wo.heap.size + 1) wr w5 := ((Below.refl _ _).alloc (by omega) _).grown hgrow (by simp; omega) (fun j hj => own_ge hown j hj)
              have hnb5 := (hb5.block wo.heap.size (Nat.lt_succ_self _)).trans HN2.out
              have f5 := unfrozen_of_block hnb5 1
              have g5 := cell_of_block hnb5 1
              have HN5 := hide hnb5
              have B5 := hide (BQI.trans ((hb5.mono (Nat.le_succ _)).setCell (p := ⟨wo.heap.size, 1, none⟩) (Nat.le_refl _) (.slice av' zz.length cv')))
              clear hpush0 hgrow hown g1 f1 hnb5 hb5
              go_wp2
              go_roundw
              case rel => exact ⟨t + 1, _, by omega, by go_num, block_setCell (i := 1) HN5.out _, by rw [HZZ.out]; exact hpush.out.setBelow (p := ⟨wo.heap.size, 1, none⟩) (Nat.lt_succ_self _) _, B5.out⟩
              case measure => simp only [intOf]; omega
      · obtain rfl : t = q := by omega
        have HG := hide (growL_all par ls t (by have h := joined_below join_par m (par_lt m) HJ.out.lt (by rw [← HQ.out]; exact HLT.out); rw [← HQ.out] at h; exact h))
        have HLN : Hid (∀ x ∈ (joinL par ls).map Int.toNat, x < t) := by
          unfold Hid
          rw [joinL_toNat]
          have h := joined_below join_par m (par_lt m) HJ.out.lt (by rw [← HQ.out]; exact HLT.out)
          rw [← HQ.out] at h
          exact h
        have hown := HOWN.out
        rw [HG.out] at hown
        have hJJ := JL.join par ls
        have HJJ := hide hJJ
        have hj16 := hJJ.2.2
        obtain ⟨av, cv, rfl, iv, _⟩ := hown.form
        have g0 := cell_of_block HNB.out 0
        have g1 := cell_of_block HNB.out 1
        have hresq := (BQ.block _ hbl1).trans HRES.out
        have hbxq := (BQ.block _ hbl0).trans HBX.out
        have hwsz := BR.size
        have BB := bnext BR BQ
        clear hJJ
        by_cases he : (joinL par ls).length = ls.length
        · have hE : (((joinL par ls).length : Int) == (ls.length : Int)) = true := by rw [beq_iff_eq]; omega
          have HE := hide he
          have f0 := unfrozen_of_block hresq 0
          have f1 := unfrozen_of_block hresq 1
          have r0 := cell_of_block hresq 0
          have r1 := cell_of_block hresq 1
          have HRQ := hide hresq
          clear he hresq hbxq
          go_wp2_with (go_at_call 98; refine (power_any _ _ (by omega) (by omega)).mono ?_; rintro e w' ⟨rfl, rfl⟩)
          refine bodyPost_ret (ret_space rfl _ _ _ _ _ rfl (block_setCell (i := 1) (block_setCell (i := 0) HRQ.out _) _)) rfl ?_
          refine ⟨_, rfl, ?_, (BB.setCell (p := ⟨w.heap.size + 1, 0, none⟩) (by show w.heap.size ≤ w.heap.size + 1; omega) _).setCell (p := ⟨w.heap.size + 1, 1, none⟩) (by show w.heap.size ≤ w.heap.size + 1; omega) _⟩
          rw [← HT.out, cloT_stop HE.out]
          exact (hown.set2 (by omega) _ _).le (by omega)
        · have hE : (((joinL par ls).length : Int) == (ls.length : Int)) = false := by rw [beq_eq_false_iff_ne]; omega
          have HE := hide he
          have hmore := joinL_more HJ.out he
          have f0 := unfrozen_of_block hbxq 0
          have f1 := unfrozen_of_block hbxq 1
          have HBQ := hide hbxq
          have HRQ := hide hresq
          clear he hbxq hresq
          go_wp2_with (go_at_call 98; refine (power_any _ _ (by omega) (by omega)).mono ?_; rintro e w' ⟨rfl, rfl⟩)
          have hset := block_setCell (i := 1) (block_setCell (i := 0) HBQ.out (.int .i64 m)) (.slice av (joinL par ls).length cv)
          have hm : lackAt ((wr.setCell ⟨w.heap.size, 0, none⟩ (.int .i64 m)).setCell ⟨w.heap.size, 1, none⟩ (.slice av (joinL par ls).length cv)) w.heap.size = 16 - (joinL par ls).length := by
            unfold lackAt
            rw [cell_of_block hset 1]
            rfl
          go_roundw
          case rel =>
            refine ⟨joinL par ls, av, cv, hset, (hown.set2 (by omega) _ _).ints, HJJ.out, HLN.out, (cloT_go HJ.out HE.out).trans HT.out, ?_, (BB.setCell (p := ⟨w.heap.size, 0, none⟩) (Nat.le_refl _) _).setCell (p := ⟨w.heap.size, 1, none⟩) (Nat.le_refl _) _⟩
            exact ((Below.heap_setCell _ _ _ _ (by show w.heap.size + 1 ≠ w.heap.size; omega)).trans (Below.heap_setCell _ _ _ _ (by show w.heap.size + 1 ≠ w.heap.size; omega))).trans HRQ.out
          case measure =>
            rw [HLIM.out, hm]
            omega

set_option maxHeartbeats 1000000 in
theorem specEvenClosure_any (n : Int) (a : Option Addr) (cap : Nat) (zs : List Int) (w : World) (hi : Ints w a zs) (hn : zs.length ≤ 1048576) :
    Calls Try.prog 22 #[.agg #[.int .i64 n, .slice a zs.length cap]] w (GivesS (cloN n zs) (cloL par n zs) w) := by
  have S0 := RV.new w n a zs cap hi
  clear hi
  by_cases hv : vsB n zs = false
  · have HN := hide (cloN_no hv)
    have HL := hide (cloL_no (f := par) hv)
    go_enter Try.func22, Try.ntmps22
    go_wp2_with fail
    refine (validSpace_any _ _ _ _ _ S0.2.1 hn).mono ?_
    rintro e w1 ⟨rfl, hb⟩
    have S1 := S0.below hb
    have hres := S1.2.2.1
    have f0 := unfrozen_of_block hres 0
    have f1 := unfrozen_of_block hres 1
    have r0 := cell_of_block hres 0
    have r1 := cell_of_block hres 1
    go_wp2
    refine bodyPost_ret (ret_space rfl _ _ _ _ _ rfl (block_setCell (i := 1) (block_setCell (i := 0) hres _) _)) rfl ?_
    rw [HN.out, HL.out]
    exact ⟨_, rfl, World.ownsRow_nil _ _ _ _, S1.set _ _⟩
  · have hv : vsB n zs = true := by simpa using hv
    have HN := hide (cloN_yes hv)
    have HL := hide (cloL_yes (f := par) hv)
    have hV := hide (valid_of hv)
    obtain ⟨m, rfl⟩ := Int.eq_ofNat_of_zero_le (show 0 ≤ n from by have := hV.out.1; omega)
    go_enter Try.func22, Try.ntmps22
    go_wp2_with fail
    refine (validSpace_any _ _ _ _ _ S0.2.1 hn).mono ?_
    rintro e w1 ⟨rfl, hb⟩
    have S1 := S0.below hb
    have ⟨⟨_, c0, c1⟩, _⟩ := S1
    go_wp2_with fail
    refine (growEven_any _ _ _ _ _ S1.2.1 hV.out).mono ?_
    rintro e w2 ⟨v, rfl, ov, hb2⟩
    have S2 := S1.below hb2
    have hlt := lt_of_block S1.2.2.1
    obtain ⟨av, cv, rfl, _, _⟩ := ov.form
    have hres := S2.2.2.1
    have f0 := unfrozen_of_block hres 0
    have f1 := unfrozen_of_block hres 1
    have r0 := cell_of_block hres 0
    have r1 := cell_of_block hres 1
    have hsz := S1.2.2.2.size
    clear c0 c1
    go_wp2
    refine bodyPost_ret (ret_space rfl _ _ _ _ _ rfl (block_setCell (i := 1) (block_setCell (i := 0) hres _) _)) rfl ?_
    rw [HN.out, HL.out]
    exact ⟨_, rfl, (ov.set2 hlt _ _).le hsz, S2.set _ _⟩
end Go.Proofs.Ytklfpbidbiippaa
