/- The program's scores: scored, at each of the four. -/
import Derived.Test.YtgkaghappogglaaScoF
import Derived.Deep.RegionWith
namespace Go.Proofs.Ytgkaghappogglaa
open Go.RowKit Go.Joins

def worthI (q : Nat) (z : Int) : Int := ((worth q (pc z.toNat) : Nat) : Int)
theorem pc_le5 (y : Nat) (h : y < 32) : pc y ≤ 5 := by unfold pc; omega

set_option maxHeartbeats 1000000 in
theorem slicesMin_any (a : Option Addr) (cap : Nat) (bs vs : List Int) (x : Nat) (w : World) (hi : Ints w a vs) (hl : vs.length = bs.length)
    (hv : ∀ j, j < bs.length → vs.getD j 0 = ((worth 3 (pc ((bs.getD j 0).toNat &&& x)) : Nat) : Int)) (h1 : 1 ≤ bs.length) (h6 : bs.length ≤ 6) (hx : x < 32) :
    Calls Try.prog 104 #[.slice a vs.length cap] w fun e w' => e = .returned (.int .i64 (minK bs x bs.length : Nat)) ∧ w = w' := by
  obtain ⟨b, off, rfl, hbl, hc⟩ := hi (by omega)
  have hcc : ∀ j, j < bs.length → w.cell? ⟨b, off + j, none⟩ = some (.int .i64 (pc ((bs.getD j 0).toNat &&& x))) := fun j hj => by rw [hc j (by omega), hv j hj]; rfl
  have HC := hide hcc
  have hc0 := hcc 0 (by omega)
  rw [Nat.add_zero] at hc0
  have hm1 : minK bs x 1 = pc ((bs.getD 0 0).toNat &&& x) := by
    have := pc_le5 _ (and_lt (bs.getD 0 0) x hx)
    show min 5 (pc ((bs.getD 0 0).toNat &&& x)) = _
    omega
  have HM1 := hide hm1
  obtain ⟨n, hn⟩ : ∃ n, n = bs.length := ⟨_, rfl⟩
  rw [hl, ← hn]
  rw [← hn] at HC h1 h6
  clear hc hcc hv hm1 hl hi hn
  have g0 : ¬ n = 0 := by omega
  have g1 : decide (n < 1) = false := by rw [decide_eq_false_iff_not]; omega
  go_enter Try.func104, Try.ntmps104
  go_wp2
  go_loop [3, 4] (fun m i => ∃ k : Nat, 1 ≤ k ∧ k ≤ n ∧ i = .int .i64 k ∧ m = .int .i64 (minK bs x k : Nat)) (fun _ i => n - (intOf i).toNat)
  case atStart => exact ⟨1, Nat.le_refl _, h1, rfl, by rw [HM1.out]; first | rfl | simp [List.getD_eq_getElem?_getD]⟩
  case round =>
    clear hc0
    obtain ⟨k, hk1, hk, rfl, rfl⟩ := hrel
    by_cases hlt : k < n
    · have hck := HC.out k hlt
      have HS := hide (show minK bs x (k + 1) = min (minK bs x k) (pc ((bs.getD k 0).toNat &&& x)) from rfl)
      obtain ⟨v, hv⟩ : ∃ v, v = pc ((bs.getD k 0).toNat &&& x) := ⟨_, rfl⟩
      rw [← hv] at hck HS
      clear hv
      go_wp2
      all_goals
        go_round
        case rel => exact ⟨k + 1, by omega, by omega, by go_num, by rw [HS.out]; first | (go_num; omega) | (congr 1; omega)⟩
        case measure => simp only [intOf]; omega
    · obtain rfl : k = n := by omega
      go_wp2
      go_ret
      exact ⟨rfl, rfl⟩

set_option maxHeartbeats 4000000 in
set_option maxRecDepth 100000 in
theorem scored0_any (a : Option Addr) (cap : Nat) (bs : List Int) (x : Nat) (w : World) (hi : Ints w a bs) (h6 : bs.length ≤ 6) (h1 : 1 ≤ bs.length) (hr : ∀ b ∈ bs, 0 ≤ b ∧ b ≤ 31) (hx : x < 32) :
    Calls Try.prog 74 #[.iface 100 (.agg #[]), .slice a bs.length cap, .int .i64 x] w fun e w' => e = .returned (.int .i64 (scoreV 0 bs x : Nat)) ∧ Below w.heap.size w w' := by
  have n0 := nilA0
  have m0 := meth0
  have t0 := isL0
  go_enter Try.func74, Try.ntmps74
  go_wp2_with fail
  refine (within_any _ _ _ _ _ hi (by omega) hr hx).mono ?_
  rintro e wo ⟨rfl, hown0, hb0⟩
  obtain ⟨zs, hzs⟩ : ∃ zs, zs = bs.map (bandI x) := ⟨_, rfl⟩
  have hzl : zs.length = bs.length := by rw [hzs, List.length_map]
  have hzk : ∀ k (h : k < bs.length), zs.getD k 0 = ((bs[k].toNat &&& x : Nat) : Int) := fun k h => by rw [getD_lt (by rw [hzl]; exact h)]; subst hzs; rw [List.getElem_map]; rfl
  rw [← hzs] at hown0
  have HZL := hide hzl
  have HZK := hide hzk
  clear hzl hzk hzs hi
  have hown0' : Owns wo w.heap.size (.slice (some ⟨w.heap.size, 0, none⟩) bs.length bs.length) (preM (worthI 0) zs 0) := by rw [preM_zero]; exact hown0
  have HX := hide hx
  clear hown0
  go_wp2
  go_loopw [18] (fun i wr => ∃ k : Nat, k ≤ bs.length ∧ i = .int .i64 k ∧ Owns wr w.heap.size (.slice (some ⟨w.heap.size, 0, none⟩) bs.length bs.length) (preM (worthI 0) zs k) ∧ Below w.heap.size w wr) (fun i _ => bs.length - (intOf i).toNat)
  case atStart => exact ⟨0, Nat.zero_le _, rfl, hown0', hb0⟩
  case round =>
    clear hown0' hb0
    obtain ⟨k, hk, rfl, hown, hb⟩ := hrel
    by_cases hlt : k < bs.length
    · have hown' : wr.ownsRow w.heap.size 3 1 (.slice (some ⟨w.heap.size, 0, none⟩) bs.length bs.length) bs.length ((preM (worthI 0) zs k).map (Value.int .i64)) := by
        have h := hown
        unfold Owns at h
        rw [preM_length, HZL.out] at h
        exact h
      have hlt' : k < zs.length := by rw [HZL.out]; exact hlt
      have hst := hown'.cellAt k (by omega)
      rw [List.getElem?_map, List.getElem?_eq_getElem (by rw [preM_length]; exact hlt'), preM_at _ zs k hlt', ← getD_lt hlt', HZK.out k hlt] at hst
      have HM : Hid ((preM (worthI 0) zs k).set k ((worth 0 (pc (bs[k].toNat &&& x)) : Nat) : Int) = preM (worthI 0) zs (k + 1)) := by
        have h := preM_set (worthI 0) zs k hlt'
        rw [← getD_lt hlt', HZK.out k hlt] at h
        unfold worthI at h ⊢
        rw [Int.toNat_natCast] at h
        exact h
      obtain ⟨y, hy⟩ : ∃ y, y = bs[k].toNat &&& x := ⟨_, rfl⟩
      have hy32 : y < 32 := by rw [hy]; exact and_lt _ _ HX.out
      have hp6 := pc_le y
      rw [← hy] at hst HM
      have HO := hide hown
      clear hown hy
      go_wp2
      go_region_with ((first
        | (go_at_call 140; refine (worthAp_any _ _).mono ?_; rintro e w7 ⟨rfl, hb7⟩; have hb8 := bdrew hb7; have hst8 := (hb8.cell (p := ⟨w.heap.size, k, none⟩) (hown'.lt _ rfl).2).trans hst; have hfz8 := (hb8.frozen (p := ⟨w.heap.size, k, none⟩) (hown'.lt _ rfl).2).trans (hown'.frozenAt k))
        | (go_at_call 69; refine (countOfNames_any _ _ hy32).mono ?_; rintro e w7 ⟨rfl, rfl⟩)))
      all_goals
        go_wp2
        go_roundw
        case rel => exact ⟨k + 1, by omega, by go_num, by
          rw [← HM.out]
          have h := HO.out.below hb8
          unfold Owns at h ⊢
          rw [preM_length, HZL.out] at h
          rw [List.length_set, preM_length, HZL.out, List.map_set]
          exact (World.ownsRow.stored h k _).1, (hb.trans (hb8.mono hb.size)).setCell (Nat.le_refl _) _⟩
        case measure => simp only [intOf]; omega
    · obtain rfl : k = bs.length := by omega
      obtain ⟨wq, hwq⟩ : ∃ wq : World, wq = wr := ⟨_, rfl⟩
      subst hwq
      have hall := preM_all (worthI 0) zs
      rw [HZL.out] at hall
      rw [hall] at hown
      have hvl : (zs.map (worthI 0)).length = bs.length := by rw [List.length_map]; exact HZL.out
      have hints := hown.ints
      have HVK : Hid (∀ j, j < bs.length → (zs.map (worthI 0)).getD j 0 = ((worth 0 (pc ((bs.getD j 0).toNat &&& x)) : Nat) : Int)) := fun j hj => by
        rw [getD_lt (by rw [hvl]; exact hj), List.getElem_map, ← getD_lt (by rw [HZL.out]; exact hj), HZK.out j hj, getD_lt hj]
        unfold worthI
        rw [Int.toNat_natCast]
      obtain ⟨vs, hvs⟩ : ∃ vs, vs = zs.map (worthI 0) := ⟨_, rfl⟩
      rw [← hvs] at hints HVK hvl
      have HVL := hide hvl
      clear hall hown hvl hvs
      go_wp2
      go_loop [10, 37] (fun s i => ∃ j : Nat, j ≤ bs.length ∧ i = .int .i64 j ∧ s = .int .i64 (scoreK 0 bs x j : Nat)) (fun _ i => bs.length - (intOf i).toNat)
      case atStart => exact ⟨0, Nat.zero_le _, rfl, rfl⟩
      case round =>
        obtain ⟨j, hj, rfl, rfl⟩ := hrel
        by_cases hjt : j < bs.length
        · obtain ⟨bb, off, eb, hbl, hc⟩ := hints (by rw [HVL.out]; omega)
          cases eb
          have hck := hc j (by rw [HVL.out]; exact hjt)
          rw [HVK.out j hjt, Nat.zero_add] at hck
          have HS := hide (scoreK_sum bs x j (show 0 ≠ 3 from by decide))
          have hsl := scoreK_le 0 bs x j
          have hwl := worth_le 0 _ (pc_le ((bs.getD j 0).toNat &&& x))
          obtain ⟨v, hv⟩ : ∃ v, v = worth 0 (pc ((bs.getD j 0).toNat &&& x)) := ⟨_, rfl⟩
          rw [← hv] at hck HS hwl
          clear hc hv
          go_wp2
          go_round
          case rel => exact ⟨j + 1, by omega, by go_num, by rw [HS.out]; go_num⟩
          case measure => simp only [intOf]; omega
        · obtain rfl : j = bs.length := by omega
          go_wp2
          go_ret
          exact ⟨rfl, hb⟩

set_option maxHeartbeats 4000000 in
set_option maxRecDepth 100000 in
theorem scored1_any (a : Option Addr) (cap : Nat) (bs : List Int) (x : Nat) (w : World) (hi : Ints w a bs) (h6 : bs.length ≤ 6) (h1 : 1 ≤ bs.length) (hr : ∀ b ∈ bs, 0 ≤ b ∧ b ≤ 31) (hx : x < 32) :
    Calls Try.prog 74 #[.iface 94 (.agg #[]), .slice a bs.length cap, .int .i64 x] w fun e w' => e = .returned (.int .i64 (scoreV 1 bs x : Nat)) ∧ Below w.heap.size w w' := by
  have n0 := nilA1
  have m0 := meth1
  have t0 := isL1
  go_enter Try.func74, Try.ntmps74
  go_wp2_with fail
  refine (within_any _ _ _ _ _ hi (by omega) hr hx).mono ?_
  rintro e wo ⟨rfl, hown0, hb0⟩
  obtain ⟨zs, hzs⟩ : ∃ zs, zs = bs.map (bandI x) := ⟨_, rfl⟩
  have hzl : zs.length = bs.length := by rw [hzs, List.length_map]
  have hzk : ∀ k (h : k < bs.length), zs.getD k 0 = ((bs[k].toNat &&& x : Nat) : Int) := fun k h => by rw [getD_lt (by rw [hzl]; exact h)]; subst hzs; rw [List.getElem_map]; rfl
  rw [← hzs] at hown0
  have HZL := hide hzl
  have HZK := hide hzk
  clear hzl hzk hzs hi
  have hown0' : Owns wo w.heap.size (.slice (some ⟨w.heap.size, 0, none⟩) bs.length bs.length) (preM (worthI 1) zs 0) := by rw [preM_zero]; exact hown0
  have HX := hide hx
  clear hown0
  go_wp2
  go_loopw [18] (fun i wr => ∃ k : Nat, k ≤ bs.length ∧ i = .int .i64 k ∧ Owns wr w.heap.size (.slice (some ⟨w.heap.size, 0, none⟩) bs.length bs.length) (preM (worthI 1) zs k) ∧ Below w.heap.size w wr) (fun i _ => bs.length - (intOf i).toNat)
  case atStart => exact ⟨0, Nat.zero_le _, rfl, hown0', hb0⟩
  case round =>
    clear hown0' hb0
    obtain ⟨k, hk, rfl, hown, hb⟩ := hrel
    by_cases hlt : k < bs.length
    · have hown' : wr.ownsRow w.heap.size 3 1 (.slice (some ⟨w.heap.size, 0, none⟩) bs.length bs.length) bs.length ((preM (worthI 1) zs k).map (Value.int .i64)) := by
        have h := hown
        unfold Owns at h
        rw [preM_length, HZL.out] at h
        exact h
      have hlt' : k < zs.length := by rw [HZL.out]; exact hlt
      have hst := hown'.cellAt k (by omega)
      rw [List.getElem?_map, List.getElem?_eq_getElem (by rw [preM_length]; exact hlt'), preM_at _ zs k hlt', ← getD_lt hlt', HZK.out k hlt] at hst
      have HM : Hid ((preM (worthI 1) zs k).set k ((worth 1 (pc (bs[k].toNat &&& x)) : Nat) : Int) = preM (worthI 1) zs (k + 1)) := by
        have h := preM_set (worthI 1) zs k hlt'
        rw [← getD_lt hlt', HZK.out k hlt] at h
        unfold worthI at h ⊢
        rw [Int.toNat_natCast] at h
        exact h
      obtain ⟨y, hy⟩ : ∃ y, y = bs[k].toNat &&& x := ⟨_, rfl⟩
      have hy32 : y < 32 := by rw [hy]; exact and_lt _ _ HX.out
      have hp6 := pc_le y
      rw [← hy] at hst HM
      have HO := hide hown
      clear hown hy
      go_wp2
      go_region_with ((first
        | (go_at_call 139; refine (worthHa_any _ _ hp6).mono ?_; rintro e w7 ⟨rfl, hb7⟩; have hb8 := bdrew hb7; have hst8 := (hb8.cell (p := ⟨w.heap.size, k, none⟩) (hown'.lt _ rfl).2).trans hst; have hfz8 := (hb8.frozen (p := ⟨w.heap.size, k, none⟩) (hown'.lt _ rfl).2).trans (hown'.frozenAt k))
        | (go_at_call 69; refine (countOfNames_any _ _ hy32).mono ?_; rintro e w7 ⟨rfl, rfl⟩)))
      all_goals
        go_wp2
        go_roundw
        case rel => exact ⟨k + 1, by omega, by go_num, by
          rw [← HM.out]
          have h := HO.out.below hb8
          unfold Owns at h ⊢
          rw [preM_length, HZL.out] at h
          rw [List.length_set, preM_length, HZL.out, List.map_set]
          exact (World.ownsRow.stored h k _).1, (hb.trans (hb8.mono hb.size)).setCell (Nat.le_refl _) _⟩
        case measure => simp only [intOf]; omega
    · obtain rfl : k = bs.length := by omega
      obtain ⟨wq, hwq⟩ : ∃ wq : World, wq = wr := ⟨_, rfl⟩
      subst hwq
      have hall := preM_all (worthI 1) zs
      rw [HZL.out] at hall
      rw [hall] at hown
      have hvl : (zs.map (worthI 1)).length = bs.length := by rw [List.length_map]; exact HZL.out
      have hints := hown.ints
      have HVK : Hid (∀ j, j < bs.length → (zs.map (worthI 1)).getD j 0 = ((worth 1 (pc ((bs.getD j 0).toNat &&& x)) : Nat) : Int)) := fun j hj => by
        rw [getD_lt (by rw [hvl]; exact hj), List.getElem_map, ← getD_lt (by rw [HZL.out]; exact hj), HZK.out j hj, getD_lt hj]
        unfold worthI
        rw [Int.toNat_natCast]
      obtain ⟨vs, hvs⟩ : ∃ vs, vs = zs.map (worthI 1) := ⟨_, rfl⟩
      rw [← hvs] at hints HVK hvl
      have HVL := hide hvl
      clear hall hown hvl hvs
      go_wp2
      go_loop [10, 37] (fun s i => ∃ j : Nat, j ≤ bs.length ∧ i = .int .i64 j ∧ s = .int .i64 (scoreK 1 bs x j : Nat)) (fun _ i => bs.length - (intOf i).toNat)
      case atStart => exact ⟨0, Nat.zero_le _, rfl, rfl⟩
      case round =>
        obtain ⟨j, hj, rfl, rfl⟩ := hrel
        by_cases hjt : j < bs.length
        · obtain ⟨bb, off, eb, hbl, hc⟩ := hints (by rw [HVL.out]; omega)
          cases eb
          have hck := hc j (by rw [HVL.out]; exact hjt)
          rw [HVK.out j hjt, Nat.zero_add] at hck
          have HS := hide (scoreK_sum bs x j (show 1 ≠ 3 from by decide))
          have hsl := scoreK_le 1 bs x j
          have hwl := worth_le 1 _ (pc_le ((bs.getD j 0).toNat &&& x))
          obtain ⟨v, hv⟩ : ∃ v, v = worth 1 (pc ((bs.getD j 0).toNat &&& x)) := ⟨_, rfl⟩
          rw [← hv] at hck HS hwl
          clear hc hv
          go_wp2
          go_round
          case rel => exact ⟨j + 1, by omega, by go_num, by rw [HS.out]; go_num⟩
          case measure => simp only [intOf]; omega
        · obtain rfl : j = bs.length := by omega
          go_wp2
          go_ret
          exact ⟨rfl, hb⟩

set_option maxHeartbeats 4000000 in
set_option maxRecDepth 100000 in
theorem scored2_any (a : Option Addr) (cap : Nat) (bs : List Int) (x : Nat) (w : World) (hi : Ints w a bs) (h6 : bs.length ≤ 6) (h1 : 1 ≤ bs.length) (hr : ∀ b ∈ bs, 0 ≤ b ∧ b ≤ 31) (hx : x < 32) :
    Calls Try.prog 74 #[.iface 101 (.agg #[]), .slice a bs.length cap, .int .i64 x] w fun e w' => e = .returned (.int .i64 (scoreV 2 bs x : Nat)) ∧ Below w.heap.size w w' := by
  have n0 := nilA2
  have m0 := meth2
  have t0 := isL2
  go_enter Try.func74, Try.ntmps74
  go_wp2_with fail
  refine (within_any _ _ _ _ _ hi (by omega) hr hx).mono ?_
  rintro e wo ⟨rfl, hown0, hb0⟩
  obtain ⟨zs, hzs⟩ : ∃ zs, zs = bs.map (bandI x) := ⟨_, rfl⟩
  have hzl : zs.length = bs.length := by rw [hzs, List.length_map]
  have hzk : ∀ k (h : k < bs.length), zs.getD k 0 = ((bs[k].toNat &&& x : Nat) : Int) := fun k h => by rw [getD_lt (by rw [hzl]; exact h)]; subst hzs; rw [List.getElem_map]; rfl
  rw [← hzs] at hown0
  have HZL := hide hzl
  have HZK := hide hzk
  clear hzl hzk hzs hi
  have hown0' : Owns wo w.heap.size (.slice (some ⟨w.heap.size, 0, none⟩) bs.length bs.length) (preM (worthI 2) zs 0) := by rw [preM_zero]; exact hown0
  have HX := hide hx
  clear hown0
  go_wp2
  go_loopw [18] (fun i wr => ∃ k : Nat, k ≤ bs.length ∧ i = .int .i64 k ∧ Owns wr w.heap.size (.slice (some ⟨w.heap.size, 0, none⟩) bs.length bs.length) (preM (worthI 2) zs k) ∧ Below w.heap.size w wr) (fun i _ => bs.length - (intOf i).toNat)
  case atStart => exact ⟨0, Nat.zero_le _, rfl, hown0', hb0⟩
  case round =>
    clear hown0' hb0
    obtain ⟨k, hk, rfl, hown, hb⟩ := hrel
    by_cases hlt : k < bs.length
    · have hown' : wr.ownsRow w.heap.size 3 1 (.slice (some ⟨w.heap.size, 0, none⟩) bs.length bs.length) bs.length ((preM (worthI 2) zs k).map (Value.int .i64)) := by
        have h := hown
        unfold Owns at h
        rw [preM_length, HZL.out] at h
        exact h
      have hlt' : k < zs.length := by rw [HZL.out]; exact hlt
      have hst := hown'.cellAt k (by omega)
      rw [List.getElem?_map, List.getElem?_eq_getElem (by rw [preM_length]; exact hlt'), preM_at _ zs k hlt', ← getD_lt hlt', HZK.out k hlt] at hst
      have HM : Hid ((preM (worthI 2) zs k).set k ((worth 2 (pc (bs[k].toNat &&& x)) : Nat) : Int) = preM (worthI 2) zs (k + 1)) := by
        have h := preM_set (worthI 2) zs k hlt'
        rw [← getD_lt hlt', HZK.out k hlt] at h
        unfold worthI at h ⊢
        rw [Int.toNat_natCast] at h
        exact h
      obtain ⟨y, hy⟩ : ∃ y, y = bs[k].toNat &&& x := ⟨_, rfl⟩
      have hy32 : y < 32 := by rw [hy]; exact and_lt _ _ HX.out
      have hp6 := pc_le y
      rw [← hy] at hst HM
      have HO := hide hown
      clear hown hy
      go_wp2
      go_region_with ((first
        | (go_at_call 141; refine (worthCo_any _ _).mono ?_; rintro e w7 ⟨rfl, hb7⟩; have hb8 := bdrew hb7; have hst8 := (hb8.cell (p := ⟨w.heap.size, k, none⟩) (hown'.lt _ rfl).2).trans hst; have hfz8 := (hb8.frozen (p := ⟨w.heap.size, k, none⟩) (hown'.lt _ rfl).2).trans (hown'.frozenAt k))
        | (go_at_call 69; refine (countOfNames_any _ _ hy32).mono ?_; rintro e w7 ⟨rfl, rfl⟩)))
      all_goals
        go_wp2
        go_roundw
        case rel => exact ⟨k + 1, by omega, by go_num, by
          rw [← HM.out]
          have h := HO.out.below hb8
          unfold Owns at h ⊢
          rw [preM_length, HZL.out] at h
          rw [List.length_set, preM_length, HZL.out, List.map_set]
          exact (World.ownsRow.stored h k _).1, (hb.trans (hb8.mono hb.size)).setCell (Nat.le_refl _) _⟩
        case measure => simp only [intOf]; omega
    · obtain rfl : k = bs.length := by omega
      obtain ⟨wq, hwq⟩ : ∃ wq : World, wq = wr := ⟨_, rfl⟩
      subst hwq
      have hall := preM_all (worthI 2) zs
      rw [HZL.out] at hall
      rw [hall] at hown
      have hvl : (zs.map (worthI 2)).length = bs.length := by rw [List.length_map]; exact HZL.out
      have hints := hown.ints
      have HVK : Hid (∀ j, j < bs.length → (zs.map (worthI 2)).getD j 0 = ((worth 2 (pc ((bs.getD j 0).toNat &&& x)) : Nat) : Int)) := fun j hj => by
        rw [getD_lt (by rw [hvl]; exact hj), List.getElem_map, ← getD_lt (by rw [HZL.out]; exact hj), HZK.out j hj, getD_lt hj]
        unfold worthI
        rw [Int.toNat_natCast]
      obtain ⟨vs, hvs⟩ : ∃ vs, vs = zs.map (worthI 2) := ⟨_, rfl⟩
      rw [← hvs] at hints HVK hvl
      have HVL := hide hvl
      clear hall hown hvl hvs
      go_wp2
      go_loop [10, 37] (fun s i => ∃ j : Nat, j ≤ bs.length ∧ i = .int .i64 j ∧ s = .int .i64 (scoreK 2 bs x j : Nat)) (fun _ i => bs.length - (intOf i).toNat)
      case atStart => exact ⟨0, Nat.zero_le _, rfl, rfl⟩
      case round =>
        obtain ⟨j, hj, rfl, rfl⟩ := hrel
        by_cases hjt : j < bs.length
        · obtain ⟨bb, off, eb, hbl, hc⟩ := hints (by rw [HVL.out]; omega)
          cases eb
          have hck := hc j (by rw [HVL.out]; exact hjt)
          rw [HVK.out j hjt, Nat.zero_add] at hck
          have HS := hide (scoreK_sum bs x j (show 2 ≠ 3 from by decide))
          have hsl := scoreK_le 2 bs x j
          have hwl := worth_le 2 _ (pc_le ((bs.getD j 0).toNat &&& x))
          obtain ⟨v, hv⟩ : ∃ v, v = worth 2 (pc ((bs.getD j 0).toNat &&& x)) := ⟨_, rfl⟩
          rw [← hv] at hck HS hwl
          clear hc hv
          go_wp2
          go_round
          case rel => exact ⟨j + 1, by omega, by go_num, by rw [HS.out]; go_num⟩
          case measure => simp only [intOf]; omega
        · obtain rfl : j = bs.length := by omega
          go_wp2
          go_ret
          exact ⟨rfl, hb⟩

set_option maxHeartbeats 4000000 in
set_option maxRecDepth 100000 in
theorem scored3_any (a : Option Addr) (cap : Nat) (bs : List Int) (x : Nat) (w : World) (hi : Ints w a bs) (h6 : bs.length ≤ 6) (h1 : 1 ≤ bs.length) (hr : ∀ b ∈ bs, 0 ≤ b ∧ b ≤ 31) (hx : x < 32) :
    Calls Try.prog 74 #[.iface 102 (.agg #[]), .slice a bs.length cap, .int .i64 x] w fun e w' => e = .returned (.int .i64 (scoreV 3 bs x : Nat)) ∧ Below w.heap.size w w' := by
  have n0 := nilA3
  have m0 := meth3
  have t0 := isL3
  go_enter Try.func74, Try.ntmps74
  go_wp2_with fail
  refine (within_any _ _ _ _ _ hi (by omega) hr hx).mono ?_
  rintro e wo ⟨rfl, hown0, hb0⟩
  obtain ⟨zs, hzs⟩ : ∃ zs, zs = bs.map (bandI x) := ⟨_, rfl⟩
  have hzl : zs.length = bs.length := by rw [hzs, List.length_map]
  have hzk : ∀ k (h : k < bs.length), zs.getD k 0 = ((bs[k].toNat &&& x : Nat) : Int) := fun k h => by rw [getD_lt (by rw [hzl]; exact h)]; subst hzs; rw [List.getElem_map]; rfl
  rw [← hzs] at hown0
  have HZL := hide hzl
  have HZK := hide hzk
  clear hzl hzk hzs hi
  have hown0' : Owns wo w.heap.size (.slice (some ⟨w.heap.size, 0, none⟩) bs.length bs.length) (preM (worthI 3) zs 0) := by rw [preM_zero]; exact hown0
  have HX := hide hx
  clear hown0
  go_wp2
  go_loopw [18] (fun i wr => ∃ k : Nat, k ≤ bs.length ∧ i = .int .i64 k ∧ Owns wr w.heap.size (.slice (some ⟨w.heap.size, 0, none⟩) bs.length bs.length) (preM (worthI 3) zs k) ∧ Below w.heap.size w wr) (fun i _ => bs.length - (intOf i).toNat)
  case atStart => exact ⟨0, Nat.zero_le _, rfl, hown0', hb0⟩
  case round =>
    clear hown0' hb0
    obtain ⟨k, hk, rfl, hown, hb⟩ := hrel
    by_cases hlt : k < bs.length
    · have hown' : wr.ownsRow w.heap.size 3 1 (.slice (some ⟨w.heap.size, 0, none⟩) bs.length bs.length) bs.length ((preM (worthI 3) zs k).map (Value.int .i64)) := by
        have h := hown
        unfold Owns at h
        rw [preM_length, HZL.out] at h
        exact h
      have hlt' : k < zs.length := by rw [HZL.out]; exact hlt
      have hst := hown'.cellAt k (by omega)
      rw [List.getElem?_map, List.getElem?_eq_getElem (by rw [preM_length]; exact hlt'), preM_at _ zs k hlt', ← getD_lt hlt', HZK.out k hlt] at hst
      have HM : Hid ((preM (worthI 3) zs k).set k ((worth 3 (pc (bs[k].toNat &&& x)) : Nat) : Int) = preM (worthI 3) zs (k + 1)) := by
        have h := preM_set (worthI 3) zs k hlt'
        rw [← getD_lt hlt', HZK.out k hlt] at h
        unfold worthI at h ⊢
        rw [Int.toNat_natCast] at h
        exact h
      obtain ⟨y, hy⟩ : ∃ y, y = bs[k].toNat &&& x := ⟨_, rfl⟩
      have hy32 : y < 32 := by rw [hy]; exact and_lt _ _ HX.out
      have hp6 := pc_le y
      rw [← hy] at hst HM
      have HO := hide hown
      clear hown hy
      go_wp2
      go_region_with ((first
        | (go_at_call 142; refine (worthLe_any _ _).mono ?_; rintro e w7 ⟨rfl, hb7⟩; have hb8 := bdrew hb7; have hst8 := (hb8.cell (p := ⟨w.heap.size, k, none⟩) (hown'.lt _ rfl).2).trans hst; have hfz8 := (hb8.frozen (p := ⟨w.heap.size, k, none⟩) (hown'.lt _ rfl).2).trans (hown'.frozenAt k))
        | (go_at_call 69; refine (countOfNames_any _ _ hy32).mono ?_; rintro e w7 ⟨rfl, rfl⟩)))
      all_goals
        go_wp2
        go_roundw
        case rel => exact ⟨k + 1, by omega, by go_num, by
          rw [← HM.out]
          have h := HO.out.below hb8
          unfold Owns at h ⊢
          rw [preM_length, HZL.out] at h
          rw [List.length_set, preM_length, HZL.out, List.map_set]
          exact (World.ownsRow.stored h k _).1, (hb.trans (hb8.mono hb.size)).setCell (Nat.le_refl _) _⟩
        case measure => simp only [intOf]; omega
    · obtain rfl : k = bs.length := by omega
      obtain ⟨wq, hwq⟩ : ∃ wq : World, wq = wr := ⟨_, rfl⟩
      subst hwq
      have hall := preM_all (worthI 3) zs
      rw [HZL.out] at hall
      rw [hall] at hown
      have hvl : (zs.map (worthI 3)).length = bs.length := by rw [List.length_map]; exact HZL.out
      have hints := hown.ints
      have HVK : Hid (∀ j, j < bs.length → (zs.map (worthI 3)).getD j 0 = ((worth 3 (pc ((bs.getD j 0).toNat &&& x)) : Nat) : Int)) := fun j hj => by
        rw [getD_lt (by rw [hvl]; exact hj), List.getElem_map, ← getD_lt (by rw [HZL.out]; exact hj), HZK.out j hj, getD_lt hj]
        unfold worthI
        rw [Int.toNat_natCast]
      obtain ⟨vs, hvs⟩ : ∃ vs, vs = zs.map (worthI 3) := ⟨_, rfl⟩
      rw [← hvs] at hints HVK hvl
      have HVL := hide hvl
      clear hall hown hvl hvs
      go_wp2_with fail
      have hl1 : vs.length = bs.length := HVL.out
      rw [← hl1]
      refine (slicesMin_any _ _ bs vs x _ hints HVL.out HVK.out h1 h6 HX.out).mono ?_
      rintro e w9 ⟨rfl, rfl⟩
      have HSV : Hid (scoreV 3 bs x = minK bs x bs.length) := by
        unfold Hid scoreV
        obtain ⟨n, hn⟩ : ∃ n, bs.length = n + 1 := ⟨bs.length - 1, by omega⟩
        rw [hn]
        exact scoreK_min bs x n
      clear hl1
      go_wp2
      go_ret
      exact ⟨ret_int (by rw [HSV.out]), hb⟩

theorem scored_any (q : Nat) (hq : q < 4) (a : Option Addr) (cap : Nat) (bs : List Int) (x : Nat) (w : World) (hi : Ints w a bs) (h6 : bs.length ≤ 6) (h1 : 1 ≤ bs.length) (hr : ∀ b ∈ bs, 0 ≤ b ∧ b ≤ 31) (hx : x < 32) :
    Calls Try.prog 74 #[Value.iface (kindT q) (.agg #[]), .slice a bs.length cap, .int .i64 x] w fun e w' => e = .returned (.int .i64 (scoreV q bs x : Nat)) ∧ Below w.heap.size w w' := by
  rcases (show q = 0 ∨ q = 1 ∨ q = 2 ∨ q = 3 from by omega) with rfl | rfl | rfl | rfl
  · exact scored0_any a cap bs x w hi h6 h1 hr hx
  · exact scored1_any a cap bs x w hi h6 h1 hr hx
  · exact scored2_any a cap bs x w hi h6 h1 hr hx
  · exact scored3_any a cap bs x w hi h6 h1 hr hx
end Go.Proofs.Ytgkaghappogglaa
