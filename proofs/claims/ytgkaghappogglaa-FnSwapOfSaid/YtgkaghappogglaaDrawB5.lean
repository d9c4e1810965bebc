/- The draw of the law on swaps. -/
import Derived.Test.YtgkaghappogglaaDrawB4
import Derived.Test.YtgkaghappogglaaBestM
import Derived.Deep.RegionHeld3
namespace Go.Proofs.Ytgkaghappogglaa
open Go.RowKit Go.Joins

/-- What a draw of ballots and a committee leaves. -/
def DrawX (w : World) (e : Ending) (w' : World) : Prop :=
  ∃ (c : Int) (a : Option Addr) (bs : List Int) (cap : Nat) (x : Int), e = .returned (.tuple #[.int .i64 c, .slice a bs.length cap, .int .i64 x]) ∧ (0 ≤ c ∧ c ≤ 6) ∧ Ints w' a bs ∧ bs.length ≤ 6 ∧ (0 ≤ x ∧ x ≤ 31) ∧ Below w.heap.size w w'
theorem kind_harm0 : kindN ⟨#[104, 97, 114, 109, 111, 110, 105, 99]⟩ = 1 := by decide +kernel
/-- the best committees of as many names as one has -/
theorem best_of_own {s : ByteArray} {c : Int} {bs : List Int} {y : Nat} (hs : kindN s < 4) (hb : balB c bs = true) (hc : (y : Int) ≤ pw c - 1) (h0 : 0 < y) :
    0 < (bestA s c bs (pc y : Int)).length ∧ ∀ z ∈ bestA s c bs (pc y : Int), 0 ≤ z ∧ z ≤ 31 := by
  have hok := bal_of hb
  obtain ⟨m, rfl⟩ := Int.eq_ofNat_of_zero_le (show 0 ≤ c from by have := hok.1.1; omega)
  have hm5 : m ≤ 5 := by have := hok.1; omega
  rw [pw_nat] at hc
  have h32 : 2 ^ m ≤ 32 := pow_le5 (m : Int) (by omega)
  have hpm := pc_of_lt hm5 (show y < 2 ^ m from by omega)
  have hpp : 1 ≤ pc y := by
    rcases Nat.eq_zero_or_pos (pc y) with e | e
    · rw [pc_zero_iff y (by omega)] at e; omega
    · exact e
  have hS : seatsB (m : Int) bs (pc y : Int) = true := by rw [seatsB_yes hb]; exact decide_eq_true (by omega)
  rw [bestA_yes hS hs, Int.toNat_natCast]
  have hp : 0 < (comL (2 ^ m) (pc y : Int)).length := List.length_pos_of_mem (comL_iff.2 ⟨y, rfl, by omega, rfl⟩)
  refine ⟨bestL_pos hp, fun z hz => ?_⟩
  obtain ⟨y', rfl, h1, _⟩ := best_stable hm5 hz
  omega
set_option maxHeartbeats 4000000 in
set_option maxRecDepth 100000 in
theorem drawX_any (a : Option Addr) (cap : Nat) (zs : List Nat) (w : World) (hi : Byts w a zs) (hl : zs.length ≤ 1048576) (hc : zs.length ≤ cap) :
    Calls Try.prog 54 #[.slice a zs.length cap] w (DrawX w) := by
  have HI := hide hi
  go_enter Try.func54, Try.ntmps54
  go_wp2_with fail
  refine (drawW2_any _ _ _ _ hi hl hc).mono ?_
  rintro e w1 ⟨s, c, av, bs, cv, k, x, rfl, hc6, ib, hb6, hx, hb1, hxc⟩
  have hn : bs.length ≤ 1048576 := by omega
  obtain ⟨y, rfl⟩ := Int.eq_ofNat_of_zero_le hx.1
  obtain ⟨_, hx31⟩ := hx
  have HXC := hide hxc
  clear hi hxc
  go_wp2_with fail
  refine (newReader_any _ _ _ _ (HI.out.below hb1) hl hc).mono ?_
  rintro e w2 ⟨R, rfl, hR, rd, B2⟩
  have ib2 := ib.below B2
  have HNE := hide (show ∀ b o s, av = some ⟨b, o, s⟩ → 0 < bs.length → b < w1.heap.size from fun b o s e h => by
    obtain ⟨b', o', e', hlt, _⟩ := ib h
    rw [e] at e'; cases e'; exact hlt)
  have HR := hide hR
  have B02 := bnext hb1 B2
  have HB1 := hb1.size
  clear hb1 ib B2 HI hR
  by_cases hv : balB c bs = true
  · have hok := bal_of hv
    have hlen1 : 1 ≤ bs.length := by have := hok.2.1.1; omega
    have hc5 : c ≤ 5 := hok.1.2
    clear hok
    go_wp2_with (go_at_call 65; refine (specBal_any _ _ _ _ _ ib2 hn).mono ?_; rintro e w3 ⟨rfl, hb3⟩; rw [hv])
    have ib3 := ib2.below hb3
    have rd3 := rd.below hb3
    have B3 := bnext B02 hb3
    clear ib2 rd B02 hb3
    refine (pick_any R _ _ _ rd3 (by omega) ⟨by omega, by omega⟩).mono ?_
    rintro e w4 ⟨r, rfl, hr0, hr2, _, g4, rd4⟩
    have ib4 := ib3.other g4 (fun b o s e e' => by have h1 := HNE.out b o s e (by omega); have h2 : R = b := by { simpa using e' }; have h3 := HR.out; omega)
    have B4 := below_reader B3 (by have := HR.out; omega) g4
    clear ib3 rd3 B3 g4 hr2
    by_cases hr : r = 0
    · subst hr
      by_cases hy : 0 < y
      · obtain ⟨hpos, hall⟩ := best_of_own (s := ⟨#[104, 97, 114, 109, 111, 110, 105, 99]⟩) (by rw [kind_harm0]; omega) hv (HXC.out hc5) hy
        have hbl := bestA_len ⟨#[104, 97, 114, 109, 111, 110, 105, 99]⟩ c bs (pc y : Int)
        have HALL := hide hall
        clear hall
        go_wp2_with (go_at_call 89; refine (weight_any y _ (by omega)).mono ?_; rintro e w' ⟨rfl, rfl⟩)
        refine (specBest_any _ _ _ _ _ _ _ ib4 hn).mono ?_
        rintro e w5 ⟨v5, rfl, own5, hb5⟩
        obtain ⟨a5, c5, rfl, i5, hg5⟩ := own5.form
        have ib5 := ib4.below hb5
        have rd5 := rd4.below hb5
        have B5 := hide (bnext B4 hb5)
        have hr4 := rd4.lt
        obtain ⟨L, hL⟩ : ∃ L, L = bestA ⟨#[104, 97, 114, 109, 111, 110, 105, 99]⟩ c bs (pc y : Int) := ⟨_, rfl⟩
        rw [← hL] at i5 hpos hbl HALL ⊢
        have hne5 := hide (fun b o s (e : a5 = some ⟨b, o, s⟩) => show R < b by have := (hg5 b o s e).1; omega)
        have IB5 := hide ib5
        have RD5 := hide rd5
        clear own5 hg5 hb5 ib4 rd4 B4 hL ib5 rd5
        obtain ⟨bb, oo, rfl, hbb, hcc⟩ := i5 hpos
        have hbR : R < bb := hne5.out bb oo none rfl
        go_wp2_with fail
        go_region_held3 (fun W => ∀ i : Nat, i < L.length → W.cell? ⟨bb, oo + i, none⟩ = some (.int .i64 (L.getD i 0))) (first | exact hcc | exact KEEP.out) (first | (go_at_call 76; refine (pick_any R _ _ _ (RD5.out.below (bdrew' (Below.refl _ _))) (by omega) ⟨by omega, by omega⟩).mono ?_; rintro e w6 ⟨r6, rfl, hr60, hr6l, _, g6, rd6⟩; obtain ⟨t, rfl⟩ := Int.eq_ofNat_of_zero_le hr60; have htl : t < L.length := (by have := hr6l (by omega); omega); have KEEP : Hid (∀ i : Nat, i < L.length → w6.cell? ⟨bb, oo + i, none⟩ = some (.int .i64 (L.getD i 0))) := fun i hi => g6.cell (hcc i hi) (by simp; omega); have G6 := hide g6; clear g6 rd6 hr6l) | fail)
        all_goals
          have hz := HALL.out _ (mem_of_at htl)
          go_wp2
          go_ret3
          exact ⟨c, av, bs, cv, _, rfl, hc6, (IB5.out.below (bdrew' (Below.refl _ _))).other G6.out (fun b o s e e' => by have h1 := HNE.out b o s e (by omega); have h2 : R = b := by { simpa using e' }; have h3 := HR.out; omega), hb6, hz, below_reader (bdrew' B5.out) (by have := HR.out; omega) G6.out⟩
      · obtain rfl : y = 0 := by omega
        go_wp2
        go_ret3
        exact ⟨c, av, bs, cv, _, rfl, hc6, ib4, hb6, ⟨by omega, by omega⟩, B4⟩
    · have hr' : (r == 0) = false := by simpa using hr
      go_wp2
      go_ret3
      exact ⟨c, av, bs, cv, _, rfl, hc6, ib4, hb6, ⟨by omega, by omega⟩, B4⟩
  · have hv : balB c bs = false := by simpa using hv
    go_wp2_with (go_at_call 65; refine (specBal_any _ _ _ _ _ ib2 hn).mono ?_; rintro e w3 ⟨rfl, hb3⟩; rw [hv])
    go_ret3
    exact ⟨c, av, bs, cv, _, rfl, hc6, ib2.below hb3, hb6, ⟨by omega, by omega⟩, bnext B02 hb3⟩
end Go.Proofs.Ytgkaghappogglaa
