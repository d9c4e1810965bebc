/- The promise of CommitteesOf: its law's walk. -/
import Derived.Test.YtgkaghappogglaaDrawB2
import Derived.Deep.QuietTactic
import Derived.BigQuiet
namespace Go.Proofs.Ytgkaghappogglaa
open Go.RowKit Go.Joins

/-- how many sets of k of c there are, as the law reckons it -/
def choK (c : Nat) : Nat → Nat
  | 0 => 1
  | i + 1 => choK c i * (c - i) / (i + 1)
theorem cho_step (c i : Nat) (hc : c ≤ 5) (hi : i < c) : choK c i ≤ 10 ∧ choK c i * (c - i) ≤ 60 := by
  have h : ∀ c : Fin 6, ∀ i : Fin 6, i.val < c.val → choK c.val i.val ≤ 10 ∧ choK c.val i.val * (c.val - i.val) ≤ 60 := by decide +kernel
  exact h ⟨c, by omega⟩ ⟨i, by omega⟩ hi
theorem com_cho (c k : Nat) (hc : c ≤ 5) (hk : k ≤ c) : (comL (2 ^ c) k).length = choK c k := by
  have h : ∀ c : Fin 6, ∀ k : Fin 6, k.val ≤ c.val → (comL (2 ^ c.val) ((k.val : Nat) : Int)).length = choK c.val k.val := by decide +kernel
  exact h ⟨c, by omega⟩ ⟨k, by omega⟩ hk
set_option maxHeartbeats 1000000 in
theorem choose_any (c k : Nat) (w : World) (hc : c ≤ 5) (hk : k ≤ c) : Calls Try.prog 25 #[.int .i64 c, .int .i64 k] w fun e w' => e = .returned (.int .i64 (choK c k)) ∧ w = w' := by
  go_enter Try.func25, Try.ntmps25
  go_wp2
  go_loop [5, 6] (fun o i => ∃ j : Nat, j ≤ k ∧ i = .int .i64 j ∧ o = .int .i64 (choK c j)) (fun _ i => k - (intOf i).toNat)
  case atStart => exact ⟨0, Nat.zero_le _, rfl, rfl⟩
  case round =>
    obtain ⟨j, hj, rfl, rfl⟩ := hrel
    by_cases hlt : j < k
    · obtain ⟨h1, h2⟩ := cho_step c j hc (by omega)
      have HS := hide (show choK c (j + 1) = choK c j * (c - j) / (j + 1) from rfl)
      obtain ⟨t, ht⟩ : ∃ t, t = choK c j := ⟨_, rfl⟩
      rw [← ht] at h1 h2 HS ⊢
      obtain ⟨d, hd⟩ : ∃ d, d = c - j := ⟨_, rfl⟩
      have hd2 : (c : Int) - (j : Int) = (d : Int) := by omega
      obtain ⟨p, hp⟩ : ∃ p, p = t * (c - j) := ⟨_, rfl⟩
      have hp2 : (t : Int) * (d : Int) = (p : Int) := by rw [hp, hd, Int.natCast_mul]
      rw [← hp] at h2 HS
      obtain ⟨q, hq⟩ : ∃ q, q = p / (j + 1) := ⟨_, rfl⟩
      have hq2 : (p : Int) / ((j : Int) + 1) = (q : Int) := by rw [hq, Int.natCast_ediv]; rfl
      rw [← hq] at HS
      have hq60 : q ≤ 60 := by rw [hq]; exact Nat.le_trans (Nat.div_le_self _ _) h2
      clear ht hd hp hq
      go_wp2
      go_round
      case rel => exact ⟨j + 1, by omega, by go_num, by rw [HS.out]⟩
      case measure => simp only [intOf]; omega
    · obtain rfl : k = j := by omega
      go_wp2
      go_ret
      exact ⟨rfl, rfl⟩
theorem comL_ups (k : Int) : ∀ m, Ups (comL m k)
  | 0 => fun i hi => by simp [comL] at hi
  | m + 1 => by
    have ih := comL_ups k m
    by_cases h : (pc m : Int) = k
    · rw [comL_yes h]
      intro i hi h0
      rw [List.length_append, List.length_singleton] at hi
      rcases Nat.lt_or_ge i (comL m k).length with hl | hl
      · have := ih i hl h0
        rw [List.getD_eq_getElem?_getD, List.getElem?_append_left (by omega), ← List.getD_eq_getElem?_getD, List.getD_eq_getElem?_getD (l := _ ++ _), List.getElem?_append_left hl, ← List.getD_eq_getElem?_getD]
        exact this
      · obtain rfl : i = (comL m k).length := by omega
        have hm : (comL m k).getD ((comL m k).length - 1) 0 < (m : Int) := by
          rw [getD_lt (by omega)]
          have hmem := List.getElem_mem (l := comL m k) (n := (comL m k).length - 1) (by omega)
          unfold comL at hmem ⊢
          obtain ⟨x, hx, e⟩ := List.mem_map.1 hmem
          have := (List.mem_filter.1 hx).1
          rw [List.mem_range] at this
          rw [← e]
          omega
        rw [List.getD_eq_getElem?_getD, List.getElem?_append_left (by omega), ← List.getD_eq_getElem?_getD]
        simp [List.getD_eq_getElem?_getD] at hm ⊢
        exact hm
    · rw [comL_no h]; exact ih
theorem comL_at {m : Nat} {k : Int} {z : Int} (h : z ∈ comL m k) : ∃ y : Nat, z = (y : Int) ∧ y < m ∧ (pc y : Int) = k := by
  unfold comL at h
  obtain ⟨x, hx, rfl⟩ := List.mem_map.1 h
  obtain ⟨h1, h2⟩ := List.mem_filter.1 hx
  exact ⟨x, rfl, by simpa using h1, by simpa using h2⟩
theorem comA_in {c k : Int} (h : 0 < (comA c k).length) : (1 ≤ c ∧ c ≤ 5) ∧ (1 ≤ k ∧ k ≤ c) := by
  apply Classical.byContradiction
  intro hn
  rw [comA_no hn] at h
  simp at h
set_option maxHeartbeats 4000000 in
set_option maxRecDepth 100000 in
theorem walk_FnCommitteesOf (a : Option Addr) (zs : List Nat) (cap : Nat) (w : World) (hi : Byts w a zs) (hl : zs.length ≤ maxLen) (hc : zs.length ≤ cap) :
    Calls Try.prog 4 #[.slice a zs.length cap] w fun e w' => e = .returned (.bool true) ∧ Below w.heap.size w w' := by
  by_cases h : 1048576 < zs.length
  · unfold maxLen at hl
    go_enter Try.func4, Try.ntmps4
    go_wp2
    go_ret
    exact ⟨rfl, Below.refl _ _⟩
  · have hl' : zs.length ≤ 1048576 := by omega
    clear h hl
    go_enter Try.func4, Try.ntmps4
    go_wp2_with fail
    refine (drawCK_any _ _ _ _ hi hl' hc).mono ?_
    rintro e w1 ⟨c, k, rfl, hc6, hk7, hb1⟩
    have hlen := comA_len c k
    clear hi
    go_wp2_with fail
    refine (implCommitteesOf_any _ _ _).mono ?_
    rintro e w2 ⟨v2, rfl, own2, hb2⟩
    obtain ⟨a2, c2, rfl, i2, _⟩ := own2.form
    go_wp2_with fail
    refine (specCommitteesOf_any _ _ _).mono ?_
    rintro e w3 ⟨v3, rfl, own3, hb3⟩
    obtain ⟨a3, c3, rfl, i3, _⟩ := own3.form
    go_wp2_with fail
    refine (equalInts_yes _ _ _ _ _ _ (i2.below hb3) i3 (by omega)).mono ?_
    rintro e w4 ⟨rfl, hb4⟩
    have B4 := bnext (bnext (bnext hb1 hb2) hb3) hb4
    have i4 := (i2.below hb3).below hb4
    clear i3 own3 own2 i2 hb1 hb2 hb3 hb4
    by_cases hz : (comA c k).length = 0
    · have hze : (((comA c k).length : Int) == 0) = true := by rw [hz]; rfl
      have HZ := hide hz
      clear hz
      go_wp2_with fail
      refine (specCommitteesOf_any _ _ _).mono ?_
      rintro e w5 ⟨v5, rfl, own5, hb5⟩
      obtain ⟨a5, c5, rfl, i5, _⟩ := own5.form
      go_wp2_with fail
      refine (equalInts_yes _ _ _ _ _ _ (i4.below hb5) i5 (by omega)).mono ?_
      rintro e w6 ⟨rfl, hb6⟩
      go_wp2
      go_ret
      exact ⟨rfl, bnext (bnext B4 hb5) hb6⟩
    · have hin := comA_in (c := c) (k := k) (by omega)
      have HA := hide (comA_yes hin)
      obtain ⟨m, rfl⟩ := Int.eq_ofNat_of_zero_le (show 0 ≤ c from by omega)
      obtain ⟨K, rfl⟩ := Int.eq_ofNat_of_zero_le (show 0 ≤ k from by omega)
      rw [Int.toNat_natCast] at HA
      rw [HA.out] at i4 hlen hz ⊢
      have hm5 : m ≤ 5 := by omega
      have hKm : K ≤ m := by omega
      have hzz : (((comL (2 ^ m) K).length : Int) == 0) = false := by simpa using hz
      have HU := hide (comL_ups (K : Int) (2 ^ m))
      have HC := hide (com_cho m K hm5 hKm)
      have h32 : 2 ^ m ≤ 2 ^ 5 := Nat.pow_le_pow_right (by omega) hm5
      obtain ⟨M, hM⟩ : ∃ M, M = 2 ^ m := ⟨_, rfl⟩
      have HPW : Hid (pw (m : Int) = (M : Int)) := by unfold Hid; rw [pw_nat, hM]
      have HAT : Hid (∀ z ∈ comL (2 ^ m) K, ∃ y : Nat, z = (y : Int) ∧ y < M ∧ (pc y : Int) = (K : Int)) := fun z hz => by rw [hM]; exact comL_at hz
      rw [← hM] at h32
      obtain ⟨L, hL⟩ : ∃ L, L = comL (2 ^ m) K := ⟨_, rfl⟩
      rw [← hL] at i4 hlen hzz HU HC HAT ⊢
      clear hin hz hM hL
      go_wp2
      go_loopw [6] (fun i wr => ∃ t : Nat, t ≤ L.length ∧ i = .int .i64 t ∧ Below w.heap.size w wr ∧ Ints wr a2 L) (fun i _ => L.length - (intOf i).toNat)
      case atStart => exact ⟨0, Nat.zero_le _, rfl, B4, i4⟩
      case round =>
        clear B4 i4
        obtain ⟨t, ht, rfl, BR, iR⟩ := hrel
        by_cases hlt : t < L.length
        · obtain ⟨b, off, rfl, hbl, hcc⟩ := iR (by omega)
          have hck := hcc t hlt
          rw [getD_lt hlt] at hck
          obtain ⟨y, hy, hyM, hpy⟩ := HAT.out _ (mem_of_at hlt)
          rw [hy] at hck
          have HPY := hide hpy
          have hg : ((pc y : Int) != (K : Int)) = false := by rw [hpy]; simp
          have hle : decide (pw (m : Int) ≤ (y : Int)) = false := by rw [HPW.out, decide_eq_false_iff_not]; omega
          have hyl : (y : Int) < pw (m : Int) := by rw [HPW.out]; omega
          have HI := hide iR
          clear hcc hy hpy iR
          go_wp2
          go_quiet ((first | (go_at_call 22; exact quiet_left (lawWeight_any y _ (by omega))) | (go_at_call 23; exact quiet_left (lawPower_any _ _ (by omega) (by omega)))))
          go_wp2
          go_roundw
          case rel => exact ⟨t + 1, by omega, by go_num, BR.trans ((belN _ _).mono BR.size), HI.out.below (belN _ _)⟩
          case measure => simp only [intOf]; omega
        · go_wp2_with fail
          refine (ascends_yes _ _ _ _ iR (by omega) HU.out).mono ?_
          rintro e w7 ⟨rfl, hb7⟩
          have B7 := bnext BR hb7
          go_wp2_with (go_at_call 25; refine (choose_any m K _ hm5 hKm).mono ?_; rintro e w' ⟨rfl, rfl⟩; rw [← HC.out])
          go_ret
          exact ⟨ret_bool (by simp), B7⟩
end Go.Proofs.Ytgkaghappogglaa
