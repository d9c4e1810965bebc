/- The promise of ApprovalsOf: its law's walk. -/
import Derived.Test.YtgkaghappogglaaDrawB2
import Derived.Test.YtgkaghappogglaaApp
import Derived.Test.YtgkaghappogglaaScoreOf
import Derived.Test.YtgkaghappogglaaWroM
namespace Go.Proofs.Ytgkaghappogglaa
open Go.RowKit Go.Joins

def sumN (f : Nat → Nat) : Nat → Nat
  | 0 => 0
  | k + 1 => sumN f k + f k
theorem sumN_add (f g : Nat → Nat) : ∀ m, sumN (fun j => f j + g j) m = sumN f m + sumN g m
  | 0 => rfl
  | m + 1 => by have := sumN_add f g m; show sumN _ m + (f m + g m) = (sumN f m + f m) + (sumN g m + g m); omega
theorem totK_map (f : Nat → Nat) (m : Nat) : ∀ j, j ≤ m → totK ((List.range m).map fun t => ((f t : Nat) : Int)) j = (sumN f j : Int)
  | 0, _ => rfl
  | j + 1, h => by
    have ih := totK_map f m j (by omega)
    show totK _ j + List.getD _ j 0 = ((sumN f j + f j : Nat) : Int)
    rw [ih, List.getD_eq_getElem?_getD]
    simp [show j < m from by omega]
theorem sum_cnt (b : Nat) : ∀ m, sumN (fun j => bitN b j) m = cntK b m
  | 0 => rfl
  | m + 1 => by show sumN _ m + _ = cntK b m + _; rw [sum_cnt b m]
theorem sum_zero (bs : List Int) : ∀ m, sumN (fun j => supK bs j 0) m = 0
  | 0 => rfl
  | m + 1 => by show sumN _ m + 0 = 0; rw [sum_zero bs m]
theorem sum_sup {bs : List Int} {m : Nat} (hm : m ≤ 5) (hr : ∀ b ∈ bs, 0 ≤ b ∧ b ≤ ((2 ^ m : Nat) : Int) - 1) : ∀ k, k ≤ bs.length → sumN (fun j => supK bs j k) m = scoreK 0 bs (2 ^ m - 1) k
  | 0, _ => sum_zero bs m
  | k + 1, h => by
    have ih := sum_sup hm hr k (by omega)
    have hk : k < bs.length := by omega
    have hb := hr _ (mem_of_at hk)
    rw [scoreK_sum bs _ k (by decide), ← ih, getD_lt hk]
    have e : (fun j => supK bs j (k + 1)) = fun j => supK bs j k + bitN (bs[k]).toNat j := by
      funext j
      show supK bs j k + bitN (bs.getD k 0).toNat j = _
      rw [getD_lt hk]
    rw [e, sumN_add, sum_cnt, cnt_pc _ m (by omega) (by omega), Nat.and_comm, and_full _ m hb]
    rfl
def apS : ByteArray := ⟨#[97, 112, 112, 114, 111, 118, 97, 108]⟩
theorem kind_ap : kindN apS = 0 := by decide +kernel
theorem app_total {c : Int} {bs : List Int} (h : BalOk c bs) : totK (appA c bs) (appA c bs).length = scV apS c bs (pw c - 1) ∧ scB apS c bs (pw c - 1) = true ∧ ((appA c bs).length : Int) = c ∧ ∀ k, k ≤ (appA c bs).length → -1073741824 ≤ totK (appA c bs) k ∧ totK (appA c bs) k ≤ 1073741824 := by
  have hb := balB_true h
  obtain ⟨m, rfl⟩ := Int.eq_ofNat_of_zero_le (show 0 ≤ c from by have := h.1; omega)
  have hm5 : m ≤ 5 := by have := h.1; omega
  have p1 := pw_pos (m : Int)
  have hin : 0 ≤ pw (m : Int) - 1 ∧ pw (m : Int) - 1 ≤ pw (m : Int) - 1 := by omega
  have hr := bal_mem h
  rw [pw_nat] at hr
  have hF : (pw (m : Int) - 1).toNat = 2 ^ m - 1 := by rw [pw_nat]; omega
  have hs := sum_sup hm5 hr bs.length (Nat.le_refl _)
  have hl : (appA (m : Int) bs).length = m := by rw [appA_yes hb, supL_length, Int.toNat_natCast]
  have hmap : ∀ k, k ≤ m → totK (appA (m : Int) bs) k = (sumN (fun j => supN bs j) k : Int) := fun k hk => by
    rw [appA_yes hb, Int.toNat_natCast]
    exact totK_map (fun j => supN bs j) m k hk
  refine ⟨?_, ?_, by rw [hl], fun k hk => ?_⟩
  · rw [hl, hmap m (Nat.le_refl _), scV_in hb hin, hF, scoreR_yes _ _ (by rw [kind_ap]; decide), kind_ap]
    show ((sumN (fun j => supK bs j bs.length) m : Nat) : Int) = _
    rw [hs]
    rfl
  · rw [scB_in hb hin]
    unfold isScore
    rw [kind_ap]; rfl
  · rw [hl] at hk
    rw [hmap k hk]
    have hle : ∀ t, sumN (fun j => supN bs j) t ≤ 6 * t := by
      intro t
      induction t with
      | zero => exact Nat.le_refl _
      | succ t ih =>
        have h1 := supN_le bs t
        have h2 := h.2.1.2
        show sumN _ t + supN bs t ≤ 6 * (t + 1)
        omega
    have := hle k
    omega
set_option maxHeartbeats 4000000 in
set_option maxRecDepth 100000 in
theorem walk_FnApprovalsOf (a : Option Addr) (zs : List Nat) (cap : Nat) (w : World) (hi : Byts w a zs) (hl : zs.length ≤ maxLen) (hc : zs.length ≤ cap) :
    Calls Try.prog 5 #[.slice a zs.length cap] w fun e w' => e = .returned (.bool true) ∧ Below w.heap.size w w' := by
  by_cases h : 1048576 < zs.length
  · unfold maxLen at hl
    go_enter Try.func5, Try.ntmps5
    go_wp2
    go_ret
    exact ⟨rfl, Below.refl _ _⟩
  · have hl' : zs.length ≤ 1048576 := by omega
    clear h hl
    go_enter Try.func5, Try.ntmps5
    go_wp2_with fail
    refine (drawAO_any _ _ _ _ hi hl' hc).mono ?_
    rintro e w1 ⟨c, ab, bs, cb, rfl, hc6, ib, ⟨hb6, _⟩, hb1⟩
    have hn : bs.length ≤ 1048576 := by omega
    have hlen := appA_len c bs
    clear hi
    go_wp2_with fail
    refine (implApp_any _ _ _ _ _ ib hn).mono ?_
    rintro e w2 ⟨v2, rfl, own2, hb2⟩
    obtain ⟨a2, c2, rfl, i2, _⟩ := own2.form
    have ib2 := ib.below hb2
    go_wp2_with fail
    refine (specApp_any _ _ _ _ _ ib2 hn).mono ?_
    rintro e w3 ⟨v3, rfl, own3, hb3⟩
    obtain ⟨a3, c3, rfl, i3, _⟩ := own3.form
    go_wp2_with fail
    refine (equalInts_yes _ _ _ _ _ _ (i2.below hb3) i3 (by omega)).mono ?_
    rintro e w4 ⟨rfl, hb4⟩
    have ib4 := (ib2.below hb3).below hb4
    have i4 := (i2.below hb3).below hb4
    have B4 := bnext (bnext (bnext hb1 hb2) hb3) hb4
    clear i3 own3 own2 i2 hb1 hb2 hb3 hb4 ib ib2
    go_wp2_with fail
    refine (implBal_any _ _ _ _ _ ib4 hn).mono ?_
    rintro e w5 ⟨rfl, hb5⟩
    have ib5 := ib4.below hb5
    have i5 := i4.below hb5
    have B5 := bnext B4 hb5
    clear ib4 i4 B4 hb5
    by_cases hv : balB c bs = true
    · have hok := bal_of hv
      obtain ⟨ht, hs, hlc, htr⟩ := app_total hok
      have p1 := pw_pos c
      have p5 := pw_le5 c hok.1.2
      have hc5 : c ≤ 5 := hok.1.2
      have HT := hide ht
      have HS := hide hs
      have HLC := hide hlc
      have HTR := hide htr
      obtain ⟨L, hL⟩ : ∃ L, L = appA c bs := ⟨_, rfl⟩
      rw [← hL] at HT HLC HTR i5 hlen ⊢
      obtain ⟨n, hnn⟩ : ∃ n, n = scV apS c bs (pw c - 1) := ⟨_, rfl⟩
      have HNN := hide hnn
      rw [← hnn] at HT
      clear hok ht hs hlc htr hL hnn
      go_wp2_with (go_at_call 23; refine (lawPower_any _ _ (by omega) (by omega)).mono ?_; rintro e w' ⟨rfl, rfl⟩)
      refine (implScoreOf_any apS c _ _ _ (pw c - 1) _ ib5 hn).mono ?_
      rintro e w6 ⟨rfl, hb6'⟩
      rw [HS.out, ← HNN.out]
      have i6 := i5.below hb6'
      have heq : (n == n) = true := by simp
      have hlq : ((L.length : Int) == c) = true := by rw [HLC.out]; simp
      go_wp2_with (go_at_call 30; refine (lawTotal_any _ _ _ _ i6 (by omega) HTR.out).mono ?_; rintro e w' ⟨rfl, rfl⟩; rw [HT.out])
      go_ret
      exact ⟨ret_bool (by first | rfl | simpa using HLC.out), bnext B5 hb6'⟩
    · have hv : balB c bs = false := by simpa using hv
      go_wp2_with fail
      refine (specApp_any _ _ _ _ _ ib5 hn).mono ?_
      rintro e w6 ⟨v6, rfl, own6, hb6'⟩
      obtain ⟨a6, c6, rfl, i6, _⟩ := own6.form
      go_wp2_with fail
      refine (equalInts_yes _ _ _ _ _ _ (i5.below hb6') i6 (by omega)).mono ?_
      rintro e w7 ⟨rfl, hb7⟩
      go_wp2
      go_ret
      exact ⟨rfl, bnext (bnext B5 hb6') hb7⟩
end Go.Proofs.Ytgkaghappogglaa
