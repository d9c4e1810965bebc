/- The law of MedianClosure answers true at every code: its walk. -/
import Derived.Test.YtklgganapphioaaCrL
import Derived.Test.YtklgganapphioaaDrawC
import Derived.Test.YtklgganapphioaaCloM
import Derived.Test.YtklgganapphioaaGrow
import Derived.Test.YtklgganapphioaaPMedS
import Derived.Deep.RegionHeld3
namespace Go.Proofs.Ytklgganapphioaa
open Go.RowKit Go.Joins

/-- the space and its closure in variables, and a third space -/
def MC (w1 : World) (m : Int) (av : Option Addr) (ss : List Int) (cv g2 : Nat) (nn : Int) (oa : Option Addr) (C : List Int) (oc g8 : Nat) (xn : Int) (xa : Option Addr) (xl : List Int) (xc : Nat) (w' : World) : Prop :=
  Box w' w1.heap.size m av ss.length cv ∧ Ints w' av ss ∧ Box w' g2 nn oa C.length oc ∧ Ints w' oa C ∧ Box w' g8 xn xa xl.length xc ∧ Ints w' xa xl ∧ Below w1.heap.size w1 w'
theorem MC.below {w1 wx wy : World} {m : Int} {av : Option Addr} {ss : List Int} {cv g2 : Nat} {nn : Int} {oa : Option Addr} {C : List Int} {oc g8 : Nat} {xn : Int} {xa : Option Addr} {xl : List Int} {xc : Nat} (h : MC w1 m av ss cv g2 nn oa C oc g8 xn xa xl xc wx) (hb : Below wx.heap.size wx wy) : MC w1 m av ss cv g2 nn oa C oc g8 xn xa xl xc wy :=
  ⟨h.1.below hb, h.2.1.below hb, h.2.2.1.below hb, h.2.2.2.1.below hb, h.2.2.2.2.1.below hb, h.2.2.2.2.2.1.below hb, bnext h.2.2.2.2.2.2 hb⟩
theorem MC.drew {w1 wx : World} {m : Int} {av : Option Addr} {ss : List Int} {cv g2 : Nat} {nn : Int} {oa : Option Addr} {C : List Int} {oc g8 : Nat} {xn : Int} {xa : Option Addr} {xl : List Int} {xc : Nat} (h : MC w1 m av ss cv g2 nn oa C oc g8 xn xa xl xc wx) : MC w1 m av ss cv g2 nn oa C oc g8 xn xa xl xc wx.drew := h.below (bdrew' (Below.refl _ _))
theorem MC.third {w1 wx : World} {m : Int} {av : Option Addr} {ss : List Int} {cv g2 : Nat} {nn : Int} {oa : Option Addr} {C : List Int} {oc g8 g9 : Nat} {xn yn : Int} {xa ya : Option Addr} {xl yl : List Int} {xc yc : Nat} (h : MC w1 m av ss cv g2 nn oa C oc g8 xn xa xl xc wx) (hb : Box wx g9 yn ya yl.length yc) (hi : Ints wx ya yl) : MC w1 m av ss cv g2 nn oa C oc g9 yn ya yl yc wx :=
  ⟨h.1, h.2.1, h.2.2.1, h.2.2.2.1, hb, hi, h.2.2.2.2.2.2⟩
theorem implValid_wasC (n : Int) (a : Option Addr) (cap : Nat) (zs : List Int) (w : World) (r : Bool) (hi : Ints w a zs) (hn : zs.length ≤ 1048576) (hr : vsB n zs = r) :
    Calls Try.prog 45 #[.agg #[.int .i64 n, .slice a zs.length cap]] w fun e w' => e = .returned (.bool r) ∧ Below w.heap.size w w' := by
  subst hr
  exact implValidSpace_any n a cap zs w hi hn
theorem specClo_was (n : Int) (a : Option Addr) (cap : Nat) (zs : List Int) (nn : Int) (C : List Int) (w : World) (hi : Ints w a zs) (hn : zs.length ≤ 1048576) (h1 : cloN n zs = nn) (h2 : cloL med n zs = C) :
    Calls Try.prog 63 #[.agg #[.int .i64 n, .slice a zs.length cap]] w (GivesS nn C w) := by
  subst h1 h2
  exact specMedianClosure_any n a cap zs w hi hn
theorem implClo_was (n : Int) (a : Option Addr) (cap : Nat) (zs : List Int) (nn : Int) (C : List Int) (w : World) (hi : Ints w a zs) (hn : zs.length ≤ 1048576) (hcap : zs.length ≤ cap) (h1 : cloN n zs = nn) (h2 : cloL med n zs = C) :
    Calls Try.prog 62 #[.agg #[.int .i64 n, .slice a zs.length cap]] w (GivesS nn C w) := by
  subst h1 h2
  exact implMedianClosure_any n a cap zs w hi hn hcap
theorem implIs_was (n : Int) (a : Option Addr) (cap : Nat) (zs : List Int) (w : World) (r : Bool) (hi : Ints w a zs) (hn : zs.length ≤ 1048576) (hcap : zs.length ≤ cap) (hr : closedB med n zs = r) :
    Calls Try.prog 49 #[.agg #[.int .i64 n, .slice a zs.length cap]] w fun e w' => e = .returned (.bool r) ∧ Below w.heap.size w w' := by
  subst hr
  exact implIsMedian_any n a cap zs w hi hn hcap
/-- the first k parts that answer at most two issues -/
def smP (L : List (Nat × Nat)) (k : Nat) : List (Nat × Nat) := (L.take k).filter fun m => decide (wt m.1 ≤ 2)
theorem smP_step {L : List (Nat × Nat)} {k : Nat} (hk : k < L.length) : smP L (k + 1) = smP L k ++ (if wt L[k].1 ≤ 2 then [L[k]] else []) := by
  unfold smP
  rw [List.take_add_one, List.getElem?_eq_getElem hk, List.filter_append]
  by_cases h : wt L[k].1 ≤ 2 <;> simp [h]
theorem smP_len (L : List (Nat × Nat)) (k : Nat) : (smP L k).length ≤ k := Nat.le_trans (List.length_filter_le _ _) (List.length_take_le _ _)

set_option maxHeartbeats 8000000 in
set_option maxRecDepth 100000 in
theorem walk_FnMedianClosure (a : Option Addr) (zs : List Nat) (cap : Nat) (w : World) (hi : Byts w a zs) (hl : zs.length ≤ maxLen) (hc : zs.length ≤ cap) :
    Calls Try.prog 14 #[.slice a zs.length cap] w fun e w' => e = .returned (.bool true) ∧ Below w.heap.size w w' := by
  obtain ⟨j0, hj0, hy0, hy1, hy2⟩ := info_parts info_part
  by_cases h : 1048576 < zs.length
  · unfold maxLen at hl
    go_enter Try.func14, Try.ntmps14
    go_wp2
    go_ret
    exact ⟨rfl, Below.refl _ _⟩
  · have hl' : zs.length ≤ 1048576 := by omega
    clear h hl
    go_enter Try.func14, Try.ntmps14
    go_wp2_with fail
    refine (drawMedianClosure_any _ _ _ _ hi hl' hc).mono ?_
    rintro e w1 ⟨m, av, ss, cv, rfl, iv, hsl, hcv, hb⟩
    have S0 := SV.new w1 m av ss cv none [] 28 iv (Ints.nil _ _)
    have HB := hide hb
    have hn : ss.length ≤ 1048576 := by omega
    have HCV := hide hcv
    clear hb hi iv hl' hsl hcv
    obtain ⟨⟨_, c0, c1⟩, _⟩ := S0.pair
    obtain ⟨nn, hnn⟩ : ∃ nn, cloN m ss = nn := ⟨_, rfl⟩
    obtain ⟨C, hC⟩ : ∃ C, cloL med m ss = C := ⟨_, rfl⟩
    have hCl : C.length ≤ 1048576 := by rw [← hC]; exact cloL_len med m ss
    have HCN := hide hnn
    have HCL := hide hC
    clear hnn hC
    go_wp2_with fail
    refine (implClo_was _ _ _ _ _ _ _ S0.2.1 hn HCV.out HCN.out HCL.out).mono ?_
    rintro e w2 ⟨vo, rfl, oo, b2⟩
    obtain ⟨oa, oc, rfl, io, _⟩ := oo.form
    have HOC := hide oo.cap
    have bo := bel1 w2 (.cells #[.int .i64 nn, .slice oa C.length oc] 28)
    have S2 := (S0.below b2).below bo
    have bx := Box.new w2 nn oa C.length oc 28
    obtain ⟨g2, hg2⟩ : ∃ g2, g2 = w2.heap.size := ⟨_, rfl⟩
    rw [← hg2] at bx
    have M2 : Hid (MC w1 m av ss cv g2 nn oa C oc g2 nn oa C oc (w2.alloc (.cells #[.int .i64 nn, .slice oa C.length oc] 28))) := ⟨S2.1, S2.2.1, bx, io.below bo, bx, io.below bo, S2.2.2.2⟩
    clear c0 c1 S0 b2 oo io bo S2 bx
    go_upto_region 5 with fail
    rw [← hg2]
    obtain ⟨W, hW⟩ : ∃ W : World, W = w2.alloc (.cells #[.int .i64 nn, .slice oa C.length oc] 28) := ⟨_, rfl⟩
    rw [← hW] at M2 ⊢
    clear hW hg2
    obtain ⟨⟨_, c0, c1⟩, _, ⟨_, d0, d1⟩, _⟩ := M2.out
    have id0 := M2.out.drew.2.1
    by_cases hv : vsB m ss = false
    · have HV := hide hv
      clear hv
      go_region_held3 (fun w' => w'.cell? ⟨w1.heap.size, 0, none⟩ = some (.int .i64 m) ∧ w'.cell? ⟨w1.heap.size, 1, none⟩ = some (.slice av ss.length cv) ∧ w'.cell? ⟨g2, 0, none⟩ = some (.int .i64 nn) ∧ w'.cell? ⟨g2, 1, none⟩ = some (.slice oa C.length oc))
        (first | go_keep | exact HK3.out | exact HK2.out | exact HK1.out)
        (first
          | (go_at_call 63; (with_reducible refine (specClo_was _ _ _ _ _ _ _ id0 hn HCN.out HCL.out).mono ?_); rintro e w5 ⟨v5, rfl, ow5, b5⟩; obtain ⟨a5, c5, rfl, ii5, _⟩ := ow5.form; have M5 := hide (M2.out.drew.below b5); have io5 := M5.out.2.2.2.1; have HK1 := hide (show w5.cell? ⟨w1.heap.size, 0, none⟩ = some (.int .i64 m) ∧ w5.cell? ⟨w1.heap.size, 1, none⟩ = some (.slice av ss.length cv) ∧ w5.cell? ⟨g2, 0, none⟩ = some (.int .i64 nn) ∧ w5.cell? ⟨g2, 1, none⟩ = some (.slice oa C.length oc) from ⟨M5.out.1.2.1, M5.out.1.2.2, M5.out.2.2.1.2.1, M5.out.2.2.1.2.2⟩))
          | (go_at_call 47; (with_reducible refine (equalSpace_was _ _ _ _ _ _ _ _ _ true io5 ii5 hCl hCl (eqS_refl _ _)).mono ?_); rintro e w6 ⟨rfl, b6⟩; have M6 := hide (M5.out.below b6); have is6 := M6.out.2.1; have HK2 := hide (show w6.cell? ⟨w1.heap.size, 0, none⟩ = some (.int .i64 m) ∧ w6.cell? ⟨w1.heap.size, 1, none⟩ = some (.slice av ss.length cv) ∧ w6.cell? ⟨g2, 0, none⟩ = some (.int .i64 nn) ∧ w6.cell? ⟨g2, 1, none⟩ = some (.slice oa C.length oc) from ⟨M6.out.1.2.1, M6.out.1.2.2, M6.out.2.2.1.2.1, M6.out.2.2.1.2.2⟩))
          | (go_at_call 45; (with_reducible refine (implValid_wasC _ _ _ _ _ false is6 hn HV.out).mono ?_); rintro e w7 ⟨rfl, b7⟩; have M7 := hide (M6.out.below b7); have HK3 := hide (show w7.cell? ⟨w1.heap.size, 0, none⟩ = some (.int .i64 m) ∧ w7.cell? ⟨w1.heap.size, 1, none⟩ = some (.slice av ss.length cv) ∧ w7.cell? ⟨g2, 0, none⟩ = some (.int .i64 nn) ∧ w7.cell? ⟨g2, 1, none⟩ = some (.slice oa C.length oc) from ⟨M7.out.1.2.1, M7.out.1.2.2, M7.out.2.2.1.2.1, M7.out.2.2.1.2.2⟩)))
      
      clear c0 c1 d0 d1
      obtain ⟨⟨_, c0, c1⟩, _, ⟨_, d0, d1⟩, _⟩ := M7.out
      have id0 := M7.out.drew.2.1
      have HS7 := M7
      clear M5 M6 M7 HK1 HK2 HK3 io5 ii5 is6
      go_upto_region 6 with fail
      go_region_held3 (fun w' => w'.cell? ⟨w1.heap.size, 0, none⟩ = some (.int .i64 m) ∧ w'.cell? ⟨w1.heap.size, 1, none⟩ = some (.slice av ss.length cv) ∧ w'.cell? ⟨g2, 0, none⟩ = some (.int .i64 nn) ∧ w'.cell? ⟨g2, 1, none⟩ = some (.slice oa C.length oc))
        (first | go_keep | exact HK2.out | exact HK1.out)
        (first
          | (go_at_call 63; (with_reducible refine (specClo_was _ _ _ _ _ _ _ id0 hn HCN.out HCL.out).mono ?_); rintro e w9 ⟨v9, rfl, ow9, b9⟩; obtain ⟨a9, c9, rfl, ii9, _⟩ := ow9.form; have M9 := hide (HS7.out.drew.below b9); have io9 := M9.out.2.2.2.1; have HK1 := hide (show w9.cell? ⟨w1.heap.size, 0, none⟩ = some (.int .i64 m) ∧ w9.cell? ⟨w1.heap.size, 1, none⟩ = some (.slice av ss.length cv) ∧ w9.cell? ⟨g2, 0, none⟩ = some (.int .i64 nn) ∧ w9.cell? ⟨g2, 1, none⟩ = some (.slice oa C.length oc) from ⟨M9.out.1.2.1, M9.out.1.2.2, M9.out.2.2.1.2.1, M9.out.2.2.1.2.2⟩))
          | (go_at_call 47; (with_reducible refine (equalSpace_was _ _ _ _ _ _ _ _ _ true io9 ii9 hCl hCl (eqS_refl _ _)).mono ?_); rintro e w10 ⟨rfl, b10⟩; have M10 := hide (M9.out.below b10); have HK2 := hide (show w10.cell? ⟨w1.heap.size, 0, none⟩ = some (.int .i64 m) ∧ w10.cell? ⟨w1.heap.size, 1, none⟩ = some (.slice av ss.length cv) ∧ w10.cell? ⟨g2, 0, none⟩ = some (.int .i64 nn) ∧ w10.cell? ⟨g2, 1, none⟩ = some (.slice oa C.length oc) from ⟨M10.out.1.2.1, M10.out.1.2.2, M10.out.2.2.1.2.1, M10.out.2.2.1.2.2⟩)))
      go_wp2
      go_ret
      exact ⟨rfl, bnext HB.out M10.out.2.2.2.2.2.2⟩
    · have hv : vsB m ss = true := by simpa using hv
      have HV := hide hv
      have hV := valid_of hv
      have hN4 := hV.1
      obtain ⟨N, rfl⟩ : ∃ N : Nat, m = (N : Int) := ⟨m.toNat, by omega⟩
      obtain rfl : nn = (N : Int) := HCN.out.symm.trans (cloN_yes hv)
      have hCT : C = cloT med ss := HCL.out.symm.trans (cloL_yes hv)
      have HV' := hide hV
      obtain ⟨L, hL⟩ : ∃ L, L = critL N ss := ⟨_, rfl⟩
      have HC : Hid (crR (N : Int) ss = ofP L) := by unfold Hid; rw [crR_yes hv, Int.toNat_natCast, hL]
      have H16 : Hid (∀ p ∈ L, p.1 < 16 ∧ p.2 < 16) := fun p hp => by
        rw [hL] at hp
        exact ord_16 (by omega) (crit_mem.1 hp).1
      have HLL := hide (ofP_len L)
      have hl81 : (ofP L).length ≤ 81 := by have := crR_81 (N : Int) ss; rw [HC.out] at this; exact this
      have HIS : Hid (closedB med (N : Int) C = true) := by unfold Hid; rw [hCT]; exact clo_closed join_med (medlt N) hV
      have HAM : Hid (∀ x ∈ ss, x ∈ C) := fun x hx => by
        have h1 := valid_lt hV hx
        rw [hCT, ← Int.toNat_of_nonneg h1.1]
        exact clo_mem hV (by rw [Int.toNat_of_nonneg h1.1]; exact hx)
      have HSE : Hid (eqS (N : Int) (N : Int) C ss = closedB med (N : Int) ss) := by
        unfold Hid eqS eqB
        rw [← clo_self join_med (medlt N) hV, hCT]
        simp
      have hCP : 0 < C.length := by rw [hCT]; exact (clo_valid join_med (medlt N) hV).2.1
      have HSM : Hid (critS N ss = smP L L.length) := by unfold Hid critS smP; rw [List.take_length, hL]
      have HSW : Hid ((smP L L.length).length ≤ 10 → swN (N : Int) (ofP (smP L L.length)) = N ∧ swL (N : Int) (ofP (smP L L.length)) = C ∧ swB (N : Int) (ofP (smP L L.length)) = true) := fun h10 =>
        sw_yes hV (fun m hm => by rw [← HSM.out] at hm; exact (List.mem_filter.1 hm).1) h10 (by rw [← HSM.out, hCT]; exact small_clo hV) hCP
      clear hL hCP
      clear hv hV hN4 hCT
      go_region_held3 (fun w' => w'.cell? ⟨w1.heap.size, 0, none⟩ = some (.int .i64 (N : Int)) ∧ w'.cell? ⟨w1.heap.size, 1, none⟩ = some (.slice av ss.length cv) ∧ w'.cell? ⟨g2, 0, none⟩ = some (.int .i64 (N : Int)) ∧ w'.cell? ⟨g2, 1, none⟩ = some (.slice oa C.length oc))
        (first | go_keep | exact HK3.out | exact HK2.out | exact HK1.out)
        (first
          | (go_at_call 63; (with_reducible refine (specClo_was _ _ _ _ _ _ _ id0 hn HCN.out HCL.out).mono ?_); rintro e w5 ⟨v5, rfl, ow5, b5⟩; obtain ⟨a5, c5, rfl, ii5, _⟩ := ow5.form; have M5 := hide (M2.out.drew.below b5); have io5 := M5.out.2.2.2.1; have HK1 := hide (show w5.cell? ⟨w1.heap.size, 0, none⟩ = some (.int .i64 (N : Int)) ∧ w5.cell? ⟨w1.heap.size, 1, none⟩ = some (.slice av ss.length cv) ∧ w5.cell? ⟨g2, 0, none⟩ = some (.int .i64 (N : Int)) ∧ w5.cell? ⟨g2, 1, none⟩ = some (.slice oa C.length oc) from ⟨M5.out.1.2.1, M5.out.1.2.2, M5.out.2.2.1.2.1, M5.out.2.2.1.2.2⟩))
          | (go_at_call 47; (with_reducible refine (equalSpace_was _ _ _ _ _ _ _ _ _ true io5 ii5 hCl hCl (eqS_refl _ _)).mono ?_); rintro e w6 ⟨rfl, b6⟩; have M6 := hide (M5.out.below b6); have is6 := M6.out.2.1; have HK2 := hide (show w6.cell? ⟨w1.heap.size, 0, none⟩ = some (.int .i64 (N : Int)) ∧ w6.cell? ⟨w1.heap.size, 1, none⟩ = some (.slice av ss.length cv) ∧ w6.cell? ⟨g2, 0, none⟩ = some (.int .i64 (N : Int)) ∧ w6.cell? ⟨g2, 1, none⟩ = some (.slice oa C.length oc) from ⟨M6.out.1.2.1, M6.out.1.2.2, M6.out.2.2.1.2.1, M6.out.2.2.1.2.2⟩))
          | (go_at_call 45; (with_reducible refine (implValid_wasC _ _ _ _ _ true is6 hn HV.out).mono ?_); rintro e w7 ⟨rfl, b7⟩; have M7 := hide (M6.out.below b7); have HK3 := hide (show w7.cell? ⟨w1.heap.size, 0, none⟩ = some (.int .i64 (N : Int)) ∧ w7.cell? ⟨w1.heap.size, 1, none⟩ = some (.slice av ss.length cv) ∧ w7.cell? ⟨g2, 0, none⟩ = some (.int .i64 (N : Int)) ∧ w7.cell? ⟨g2, 1, none⟩ = some (.slice oa C.length oc) from ⟨M7.out.1.2.1, M7.out.1.2.2, M7.out.2.2.1.2.1, M7.out.2.2.1.2.2⟩)))
      
      clear c0 c1 d0 d1
      obtain ⟨⟨_, c0, c1⟩, _, ⟨_, d0, d1⟩, _⟩ := M7.out
      have HS7 := M7
      clear M5 M6 M7 HK1 HK2 HK3 io5 ii5 is6 id0
      go_wp2_with fail
      refine (implCrit_was _ _ _ _ _ _ ((HS7.out.below (bel1 _ _)).2.1) hn HC.out).mono ?_
      rintro e w8 ⟨v8, rfl, o8, b8⟩
      obtain ⟨a8, k8, rfl, p8⟩ := o8.form
      have b78 := bnext (bel1 w7 (.cells #[] 52)) b8
      have M8 := hide (HS7.out.below b78)
      have P8 := hide p8
      have hg7 := hide b78.size
      clear c0 c1 d0 d1 o8 b8 p8 b78 HS7
      go_wp2_with fail
      go_loopw [5, 7] (fun u i wr => ∃ k : Nat, k ≤ (ofP L).length ∧ i = .int .i64 k ∧ ((smP L k = [] ∧ u = .slice (some ⟨w7.heap.size, 0, none⟩) 0 0) ∨ OwnsP wr w8.heap.size u (ofP (smP L k))) ∧ Below w8.heap.size w8 wr) (fun _ i _ => (ofP L).length - (intOf i).toNat)
      case atStart => exact ⟨0, Nat.zero_le _, rfl, .inl ⟨rfl, rfl⟩, Below.refl _ _⟩
      case round =>
        obtain ⟨k, hk, rfl, hop, hbq⟩ := hrel
        by_cases hlt : k < (ofP L).length
        · have hlt' : k < L.length := by rw [← HLL.out]; exact hlt
          have hk81 : k < 81 := by omega
          obtain ⟨bb, off, rfl, hbl, hcc⟩ := (P8.out.below hbq) (by omega)
          obtain ⟨h1, h2⟩ := hcc k hlt
          rw [ofP_at hlt'] at h1 h2
          have h16 := (H16.out _ (List.getElem_mem hlt')).1
          have hst := smP_step hlt'
          obtain ⟨pc, hpc⟩ : ∃ pc, pc = L[k].1 := ⟨_, rfl⟩
          obtain ⟨pb, hpb⟩ : ∃ pb, pb = L[k].2 := ⟨_, rfl⟩
          have HPP := hide (show L[k] = (pc, pb) from by rw [hpc, hpb])
          rw [← hpc] at h16 hst
          simp only [← hpc] at h1
          simp only [← hpb] at h2
          obtain ⟨q, hq⟩ : ∃ q, wt pc = q := ⟨_, rfl⟩
          rw [hq] at hst
          have HQ := hide hq
          have HBQ := hide hbq
          have hws := hbq.size
          have hg7' := hg7.out
          clear hcc hpc hpb hq hbq
          by_cases hq2 : q ≤ 2
          · have hd : decide ((q : Int) ≤ 2) = true := by simpa using (by omega : (q : Int) ≤ 2)
            rw [if_pos hq2] at hst
            have HST : Hid (ofP (smP L (k + 1)) = ofP (smP L k) ++ [((pc : Int), (pb : Int))]) := by
              unfold Hid
              rw [hst, HPP.out]
              unfold ofP
              rw [List.map_append]
              rfl
            have hol : (ofP (smP L k)).length ≤ 81 := by
              rw [ofP_len]
              have := smP_len L k
              omega
            clear hst
            rcases hop with ⟨he, rfl⟩ | hop
            · have HE := hide he
              clear he
              go_wp2_with (first
                | (go_at_call 51; refine (lawWeight_was _ q _ h16 HQ.out).mono ?_; rintro e w' ⟨rfl, rfl⟩)
                | (at_builtin; refine wpList_append_grows _ rfl _ _ 26 rfl 52 j0 (.agg #[.int .i64 0, .int .i64 0]) 2 16 Try.underlying26 hj0 hy0 hy1 hy2 rfl (by decide) (some ⟨w7.heap.size, 0, none⟩) 0 0 [] rfl (fun e => by cases e) rfl (fun b _ j u hj => by simp at hj) ⟨wr.heap.size, 0, none⟩ 1 1 [.int .i64 (pc : Int), .int .i64 (pb : Int)] rfl rfl (World.news_of_block (cs := #[.int .i64 (pc : Int), .int .i64 (pb : Int)]) (t := 52) (fr := (0, 0)) (heap_alloc_new wr _)) (by intro u hu; simp at hu; rcases hu with rfl | rfl <;> rfl) (by omega) (by unfold maxLen; omega) (by omega) ?_))
              intro v' w9 hown' hgrow
              have hB9 : Below w8.heap.size w8 w9 := bgrown (HBQ.out.trans ((bel1 wr _).mono HBQ.out.size)) hgrow (HBQ.out.trans ((bel1 wr _).mono HBQ.out.size)).size (fun j hj => by cases hj)
              have V9 : OwnsP w9 w8.heap.size v' (ofP (smP L (k + 1))) := by
                have h0 : OwnsP w9 w8.heap.size v' ([] ++ [((pc : Int), (pb : Int))]) := OwnsP.push (OwnsP.le (base' := w8.heap.size) (ps := [((pc : Int), (pb : Int))]) hown' (by first | omega | (simp; omega)))
                rw [HST.out, HE.out]
                exact h0
              have HV9 := hide V9
              have HB9 := hide hB9
              clear hown' hgrow hB9 V9
              go_wp2
              go_roundw
              case rel => exact ⟨k + 1, by omega, by go_num, .inr HV9.out, HB9.out⟩
              case measure => simp only [intOf]; omega
            · obtain ⟨ua, uc, rfl, _⟩ := hop.form
              have hop' : wr.ownsRow w8.heap.size 52 2 (.slice ua (ofP (smP L k)).length uc) (ofP (smP L k)).length (pflat (ofP (smP L k))) := hop
              have hge := hide (fun j hj => pown_ge hop j hj)
              clear hop
              go_wp2_with (first
                | (go_at_call 51; refine (lawWeight_was _ q _ h16 HQ.out).mono ?_; rintro e w' ⟨rfl, rfl⟩)
                | (at_builtin; refine wpList_append_own _ rfl _ _ 26 rfl w8.heap.size 52 j0 (.agg #[.int .i64 0, .int .i64 0]) 2 16 Try.underlying26 hj0 hy0 hy1 hy2 rfl (by decide) _ _ _ rfl (hop'.alloc _) ⟨wr.heap.size, 0, none⟩ 1 1 [.int .i64 (pc : Int), .int .i64 (pb : Int)] rfl rfl (World.news_of_block (cs := #[.int .i64 (pc : Int), .int .i64 (pb : Int)]) (t := 52) (fr := (0, 0)) (heap_alloc_new wr _)) (by intro u hu; simp at hu; rcases hu with rfl | rfl <;> rfl) (by unfold maxLen; omega) (by omega) (by first | omega | (simp; omega)) ?_))
              intro v' w9 hown' hgrow _
              have hB9 : Below w8.heap.size w8 w9 := bgrown (HBQ.out.trans ((bel1 wr _).mono HBQ.out.size)) hgrow (HBQ.out.trans ((bel1 wr _).mono HBQ.out.size)).size (fun j hj => by have := hge.out j hj; omega)
              have V9 : OwnsP w9 w8.heap.size v' (ofP (smP L (k + 1))) := by rw [HST.out]; exact OwnsP.push hown'
              have HV9 := hide V9
              have HB9 := hide hB9
              clear hown' hgrow hB9 V9 hop'
              go_wp2
              go_roundw
              case rel => exact ⟨k + 1, by omega, by go_num, .inr HV9.out, HB9.out⟩
              case measure => simp only [intOf]; omega
          · have hd : decide ((q : Int) ≤ 2) = false := by simpa using (by omega : 2 < (q : Int))
            rw [if_neg hq2, List.append_nil] at hst
            have HST := hide hst
            have HOP := hide hop
            clear hst hop
            go_wp2_with (go_at_call 51; refine (lawWeight_was _ q _ h16 HQ.out).mono ?_; rintro e w' ⟨rfl, rfl⟩)
            go_roundw
            case rel => exact ⟨k + 1, by omega, by go_num, by rw [HST.out]; exact HOP.out, HBQ.out⟩
            case measure => simp only [intOf]; omega
        · obtain rfl : k = (ofP L).length := by omega
          rw [HLL.out] at hop
          have hsl : (ofP (smP L L.length)).length ≤ 81 := by
            rw [ofP_len]
            have := smP_len L L.length
            have := HLL.out
            omega
          have hu : ∃ ua uc, u5 = .slice ua (ofP (smP L L.length)).length uc ∧ PInts wr ua (ofP (smP L L.length)) := by
            rcases hop with ⟨he, rfl⟩ | hop
            · exact ⟨_, 0, by rw [he]; rfl, by rw [he]; exact fun h => by simp [ofP] at h⟩
            · obtain ⟨ua, uc, e, hp⟩ := hop.form
              exact ⟨ua, uc, e, hp⟩
          obtain ⟨ua, uc, rfl, hpu⟩ := hu
          have MR := hide (M8.out.below hbq)
          have HWF : Hid (∀ p ∈ ofP (smP L L.length), (Lit.int .i64 p.2).wf = true) := fun p hp => by
            unfold ofP at hp
            obtain ⟨q, hq, rfl⟩ := List.mem_map.1 hp
            have h1 := (List.mem_filter.1 hq).1
            rw [List.take_length] at h1
            exact wf_16 _ (H16.out q h1).2
          obtain ⟨⟨_, c0, c1⟩, _, ⟨_, d0, d1⟩, _⟩ := MR.out
          clear hop hbq
          go_wp2_with fail
          refine (implSw_any _ _ _ _ _ hpu (by omega) HWF.out).mono ?_
          rintro e w9 ⟨x, rfl, ox, b9⟩
          obtain ⟨xa, xc, rfl, ix, _⟩ := ox.form
          have b90 := bel1 w9 (.cells #[.int .i64 (swN (N : Int) (ofP (smP L L.length))), .slice xa (swL (N : Int) (ofP (smP L L.length))).length xc] 28)
          have bx := Box.new w9 (swN (N : Int) (ofP (smP L L.length))) xa (swL (N : Int) (ofP (smP L L.length))).length xc 28
          obtain ⟨g8, hg8⟩ : ∃ g8, g8 = w9.heap.size := ⟨_, rfl⟩
          rw [← hg8] at bx
          have M10 := hide (((MR.out.below b9).below b90).third bx (ix.below b90))
          obtain ⟨r, hr⟩ : ∃ r, closedB med (N : Int) ss = r := ⟨_, rfl⟩
          have HR := hide hr
          have HRS : Hid (eqS (N : Int) (N : Int) C ss = r) := by unfold Hid; rw [HSE.out]; exact hr
          have hrr : (r == r) = true := by simp
          clear c0 c1 d0 d1 ox ix b9 b90 bx hpu hr
          go_upto_region 15 with fail
          rw [← hg8]
          obtain ⟨W9, hW9⟩ : ∃ W : World, W = w9.alloc (.cells #[.int .i64 (swN (N : Int) (ofP (smP L L.length))), .slice xa (swL (N : Int) (ofP (smP L L.length))).length xc] 28) := ⟨_, rfl⟩
          rw [← hW9] at M10 ⊢
          clear hW9 hg8
          by_cases h10 : (ofP (smP L L.length)).length ≤ 10
          · obtain ⟨e1, e2, e3⟩ := HSW.out (by rw [← ofP_len]; exact h10)
            rw [e1, e2] at M10
            rw [e1, e2, e3]
            have hd : decide (10 < (ofP (smP L L.length)).length) = false := decide_eq_false (by omega)
            have hd2 : decide ((10 : Int) < ((ofP (smP L L.length)).length : Int)) = false := decide_eq_false (by omega)
            clear e1 e2 e3 HSW
            obtain ⟨⟨_, c0, c1⟩, _, ⟨_, d0, d1⟩, _, ⟨_, x0, x1⟩, _⟩ := M10.out
            have id1 := M10.out.drew.2.2.2.1
            go_region_held3 (fun w' => w'.cell? ⟨w1.heap.size, 0, none⟩ = some (.int .i64 (N : Int)) ∧ w'.cell? ⟨w1.heap.size, 1, none⟩ = some (.slice av ss.length cv) ∧ w'.cell? ⟨g2, 0, none⟩ = some (.int .i64 (N : Int)) ∧ w'.cell? ⟨g2, 1, none⟩ = some (.slice oa C.length oc) ∧ w'.cell? ⟨g8, 0, none⟩ = some (.int .i64 (N : Int)) ∧ w'.cell? ⟨g8, 1, none⟩ = some (.slice xa C.length xc))
              (first | go_keep | exact HK5.out | exact HK4.out | exact HK3.out | exact HK2.out | exact HK1.out)
              (first
                | (go_at_call 49; (with_reducible refine (implIs_was _ _ _ _ _ true id1 hCl HOC.out HIS.out).mono ?_); rintro e w11 ⟨rfl, b11⟩; have M11 := hide (M10.out.drew.below b11); have is11 := M11.out.2.1; have io11 := M11.out.2.2.2.1; have ix11 := M11.out.2.2.2.2.2.1; have HK1 := hide (show w11.cell? ⟨w1.heap.size, 0, none⟩ = some (.int .i64 (N : Int)) ∧ w11.cell? ⟨w1.heap.size, 1, none⟩ = some (.slice av ss.length cv) ∧ w11.cell? ⟨g2, 0, none⟩ = some (.int .i64 (N : Int)) ∧ w11.cell? ⟨g2, 1, none⟩ = some (.slice oa C.length oc) ∧ w11.cell? ⟨g8, 0, none⟩ = some (.int .i64 (N : Int)) ∧ w11.cell? ⟨g8, 1, none⟩ = some (.slice xa C.length xc) from ⟨M11.out.1.2.1, M11.out.1.2.2, M11.out.2.2.1.2.1, M11.out.2.2.1.2.2, M11.out.2.2.2.2.1.2.1, M11.out.2.2.2.2.1.2.2⟩))
                | (go_at_call 64; (with_reducible refine (among_yes _ _ _ _ _ _ _ is11 io11 hn hCl HAM.out).mono ?_); rintro e w12 ⟨rfl, b12⟩; have M12 := hide (M11.out.below b12); have is12 := M12.out.2.1; have io12 := M12.out.2.2.2.1; have ix12 := M12.out.2.2.2.2.2.1; have HK2 := hide (show w12.cell? ⟨w1.heap.size, 0, none⟩ = some (.int .i64 (N : Int)) ∧ w12.cell? ⟨w1.heap.size, 1, none⟩ = some (.slice av ss.length cv) ∧ w12.cell? ⟨g2, 0, none⟩ = some (.int .i64 (N : Int)) ∧ w12.cell? ⟨g2, 1, none⟩ = some (.slice oa C.length oc) ∧ w12.cell? ⟨g8, 0, none⟩ = some (.int .i64 (N : Int)) ∧ w12.cell? ⟨g8, 1, none⟩ = some (.slice xa C.length xc) from ⟨M12.out.1.2.1, M12.out.1.2.2, M12.out.2.2.1.2.1, M12.out.2.2.1.2.2, M12.out.2.2.2.2.1.2.1, M12.out.2.2.2.2.1.2.2⟩))
                | (go_at_call 47; (with_reducible refine (equalSpace_was _ _ _ _ _ _ _ _ _ r io12 is12 hCl hn HRS.out).mono ?_); rintro e w13 ⟨rfl, b13⟩; have M13 := hide (M12.out.below b13); have is13 := M13.out.2.1; have io13 := M13.out.2.2.2.1; have ix13 := M13.out.2.2.2.2.2.1; have HK3 := hide (show w13.cell? ⟨w1.heap.size, 0, none⟩ = some (.int .i64 (N : Int)) ∧ w13.cell? ⟨w1.heap.size, 1, none⟩ = some (.slice av ss.length cv) ∧ w13.cell? ⟨g2, 0, none⟩ = some (.int .i64 (N : Int)) ∧ w13.cell? ⟨g2, 1, none⟩ = some (.slice oa C.length oc) ∧ w13.cell? ⟨g8, 0, none⟩ = some (.int .i64 (N : Int)) ∧ w13.cell? ⟨g8, 1, none⟩ = some (.slice xa C.length xc) from ⟨M13.out.1.2.1, M13.out.1.2.2, M13.out.2.2.1.2.1, M13.out.2.2.1.2.2, M13.out.2.2.2.2.1.2.1, M13.out.2.2.2.2.1.2.2⟩))
                | (go_at_call 49; (with_reducible refine (implIs_was _ _ _ _ _ r is13 hn HCV.out HR.out).mono ?_); rintro e w14 ⟨rfl, b14⟩; have M14 := hide (M13.out.below b14); have is14 := M14.out.2.1; have io14 := M14.out.2.2.2.1; have ix14 := M14.out.2.2.2.2.2.1; have HK4 := hide (show w14.cell? ⟨w1.heap.size, 0, none⟩ = some (.int .i64 (N : Int)) ∧ w14.cell? ⟨w1.heap.size, 1, none⟩ = some (.slice av ss.length cv) ∧ w14.cell? ⟨g2, 0, none⟩ = some (.int .i64 (N : Int)) ∧ w14.cell? ⟨g2, 1, none⟩ = some (.slice oa C.length oc) ∧ w14.cell? ⟨g8, 0, none⟩ = some (.int .i64 (N : Int)) ∧ w14.cell? ⟨g8, 1, none⟩ = some (.slice xa C.length xc) from ⟨M14.out.1.2.1, M14.out.1.2.2, M14.out.2.2.1.2.1, M14.out.2.2.1.2.2, M14.out.2.2.2.2.1.2.1, M14.out.2.2.2.2.1.2.2⟩))
                | (go_at_call 47; (with_reducible refine (equalSpace_was _ _ _ _ _ _ _ _ _ true ix14 io14 hCl hCl (eqS_refl _ _)).mono ?_); rintro e w15 ⟨rfl, b15⟩; have M15 := hide (M14.out.below b15); have is15 := M15.out.2.1; have io15 := M15.out.2.2.2.1; have ix15 := M15.out.2.2.2.2.2.1; have HK5 := hide (show w15.cell? ⟨w1.heap.size, 0, none⟩ = some (.int .i64 (N : Int)) ∧ w15.cell? ⟨w1.heap.size, 1, none⟩ = some (.slice av ss.length cv) ∧ w15.cell? ⟨g2, 0, none⟩ = some (.int .i64 (N : Int)) ∧ w15.cell? ⟨g2, 1, none⟩ = some (.slice oa C.length oc) ∧ w15.cell? ⟨g8, 0, none⟩ = some (.int .i64 (N : Int)) ∧ w15.cell? ⟨g8, 1, none⟩ = some (.slice xa C.length xc) from ⟨M15.out.1.2.1, M15.out.1.2.2, M15.out.2.2.1.2.1, M15.out.2.2.1.2.2, M15.out.2.2.2.2.1.2.1, M15.out.2.2.2.2.1.2.2⟩)))
            go_wp2
            go_ret
            exact ⟨rfl, bnext HB.out M15.out.2.2.2.2.2.2⟩
          · have hd : decide (10 < (ofP (smP L L.length)).length) = true := decide_eq_true (by omega)
            have hd2 : decide ((10 : Int) < ((ofP (smP L L.length)).length : Int)) = true := decide_eq_true (by omega)
            obtain ⟨⟨_, c0, c1⟩, _, ⟨_, d0, d1⟩, _, ⟨_, x0, x1⟩, _⟩ := M10.out
            have id1 := M10.out.drew.2.2.2.1
            refine wp_region_held_drew (S := (fun w' => w'.cell? ⟨w1.heap.size, 0, none⟩ = some (.int .i64 (N : Int)) ∧ w'.cell? ⟨w1.heap.size, 1, none⟩ = some (.slice av ss.length cv) ∧ w'.cell? ⟨g2, 0, none⟩ = some (.int .i64 (N : Int)) ∧ w'.cell? ⟨g2, 1, none⟩ = some (.slice oa C.length oc) ∧ w'.cell? ⟨g8, 0, none⟩ = some (.int .i64 (swN (N : Int) (ofP (smP L L.length)))) ∧ w'.cell? ⟨g8, 1, none⟩ = some (.slice xa (swL (N : Int) (ofP (smP L L.length))).length xc))) (by kernel_rfl) ?_ (fun hHeld => ?_)
            · exact ⟨c0, c1, d0, d1, x0, x1⟩
            refine wpAnyH_take (i := 0) (v := ?vv0) rfl (by kernel_rfl) (by kernel_rfl) (by kernel_rfl) (fun _ _ _ h => h) (Or.inl ⟨by rfl, ?hy0⟩) (by assumption) ?rest0
            case hy0 => (intro w hSw; (try dsimp only at hSw); go_simp; (try with_reducible rfl))
            case rest0 =>
              (try simp only [Act.put, List.setIfInBounds_toArray, List.set_cons_zero, List.set_cons_succ, List.getElem_toArray, List.getElem_cons_zero])
              refine wpAnyH_ready (rs := [1]) (by kernel_rfl) (by simp) ?_
              refine AllReadyH.cons rfl (fun K hK => ?_) AllReadyH.nil
              go_simp
              (go_at_call 49; (with_reducible refine (implIs_was _ _ _ _ _ true id1 hCl HOC.out HIS.out).mono ?_); rintro e w11 ⟨rfl, b11⟩; have M11 := hide (M10.out.drew.below b11); have is11 := M11.out.2.1; have io11 := M11.out.2.2.2.1; clear b11)
              go_wp2_with fail
              refine hK.out _ _ ?_ (fun hHeld => ?_)
              · exact ⟨M11.out.1.2.1, M11.out.1.2.2, M11.out.2.2.1.2.1, M11.out.2.2.1.2.2, M11.out.2.2.2.2.1.2.1, M11.out.2.2.2.2.1.2.2⟩
              clear hK K
              (try simp only [Act.put, List.setIfInBounds_toArray, List.set_cons_zero, List.set_cons_succ, List.getElem_toArray, List.getElem_cons_zero, List.getElem_cons_succ])
              refine wpAnyH_take (i := 2) (v := ?vv2) rfl (by kernel_rfl) (by kernel_rfl) (by kernel_rfl) (fun _ _ _ h => h) (Or.inl ⟨by rfl, ?hy2⟩) (by assumption) ?rest2
              case hy2 => (intro w hSw; (try dsimp only at hSw); go_simp; (try with_reducible rfl))
              case rest2 =>
                (try simp only [Act.put, List.setIfInBounds_toArray, List.set_cons_zero, List.set_cons_succ, List.getElem_toArray, List.getElem_cons_zero, List.getElem_cons_succ])
                refine wpAnyH_take (i := 3) (v := ?vv3) rfl (by kernel_rfl) (by kernel_rfl) (by kernel_rfl) (fun _ _ _ h => h) (Or.inl ⟨by rfl, ?hy3⟩) (by assumption) ?rest3
                case hy3 => (intro w hSw; (try dsimp only at hSw); go_simp; (try with_reducible rfl))
                case rest3 =>
                  (try simp only [Act.put, List.setIfInBounds_toArray, List.set_cons_zero, List.set_cons_succ, List.getElem_toArray, List.getElem_cons_zero, List.getElem_cons_succ])
                  refine wpAnyH_take (i := 4) (v := ?vv4) rfl (by kernel_rfl) (by kernel_rfl) (by kernel_rfl) (fun _ _ _ h => h) (Or.inl ⟨by rfl, ?hy4⟩) (by assumption) ?rest4
                  case hy4 => (intro w hSw; (try dsimp only at hSw); go_simp; (try with_reducible rfl))
                  case rest4 =>
                    (try simp only [Act.put, List.setIfInBounds_toArray, List.set_cons_zero, List.set_cons_succ, List.getElem_toArray, List.getElem_cons_zero, List.getElem_cons_succ])
                    refine wpAnyH_take (i := 5) (v := ?vv5) rfl (by kernel_rfl) (by kernel_rfl) (by kernel_rfl) (fun _ _ _ h => h) (Or.inl ⟨by rfl, ?hy5⟩) (by assumption) ?rest5
                    case hy5 => (intro w hSw; (try dsimp only at hSw); go_simp; (try with_reducible rfl))
                    case rest5 =>
                      (try simp only [Act.put, List.setIfInBounds_toArray, List.set_cons_zero, List.set_cons_succ, List.getElem_toArray, List.getElem_cons_zero, List.getElem_cons_succ])
                      refine wpAnyH_take (i := 6) (v := ?vv6) rfl (by kernel_rfl) (by kernel_rfl) (by kernel_rfl) (fun _ _ _ h => h) (Or.inl ⟨by rfl, ?hy6⟩) (by assumption) ?rest6
                      case hy6 => (intro w hSw; (try dsimp only at hSw); go_simp; (try with_reducible rfl))
                      case rest6 =>
                        (try simp only [Act.put, List.setIfInBounds_toArray, List.set_cons_zero, List.set_cons_succ, List.getElem_toArray, List.getElem_cons_zero, List.getElem_cons_succ])
                        refine wpAnyH_ready (rs := [7]) (by kernel_rfl) (by simp) ?_
                        refine AllReadyH.cons rfl (fun K hK => ?_) AllReadyH.nil
                        go_simp
                        (go_at_call 64; (with_reducible refine (among_yes _ _ _ _ _ _ _ is11 io11 hn hCl HAM.out).mono ?_); rintro e w12 ⟨rfl, b12⟩; have M12 := hide (M11.out.below b12); have is12 := M12.out.2.1; have io12 := M12.out.2.2.2.1; clear b12)
                        go_wp2_with fail
                        refine hK.out _ _ ?_ (fun hHeld => ?_)
                        · exact ⟨M12.out.1.2.1, M12.out.1.2.2, M12.out.2.2.1.2.1, M12.out.2.2.1.2.2, M12.out.2.2.2.2.1.2.1, M12.out.2.2.2.2.1.2.2⟩
                        clear hK K
                        (try simp only [Act.put, List.setIfInBounds_toArray, List.set_cons_zero, List.set_cons_succ, List.getElem_toArray, List.getElem_cons_zero, List.getElem_cons_succ])
                        refine wpAnyH_take (i := 8) (v := ?vv8) rfl (by kernel_rfl) (by kernel_rfl) (by kernel_rfl) (fun _ _ _ h => h) (Or.inl ⟨by rfl, ?hy8⟩) (by assumption) ?rest8
                        case hy8 => (intro w hSw; (try dsimp only at hSw); go_simp; (try with_reducible rfl))
                        case rest8 =>
                          (try simp only [Act.put, List.setIfInBounds_toArray, List.set_cons_zero, List.set_cons_succ, List.getElem_toArray, List.getElem_cons_zero, List.getElem_cons_succ])
                          refine wpAnyH_take (i := 9) (v := ?vv9) rfl (by kernel_rfl) (by kernel_rfl) (by kernel_rfl) (fun _ _ _ h => h) (Or.inl ⟨by rfl, ?hy9⟩) (by assumption) ?rest9
                          case hy9 => (intro w hSw; (try dsimp only at hSw); go_simp; (try with_reducible rfl))
                          case rest9 =>
                            (try simp only [Act.put, List.setIfInBounds_toArray, List.set_cons_zero, List.set_cons_succ, List.getElem_toArray, List.getElem_cons_zero, List.getElem_cons_succ])
                            refine wpAnyH_take (i := 10) (v := ?vv10) rfl (by kernel_rfl) (by kernel_rfl) (by kernel_rfl) (fun _ _ _ h => h) (Or.inl ⟨by rfl, ?hy10⟩) (by assumption) ?rest10
                            case hy10 => (intro w hSw; (try dsimp only at hSw); go_simp; (try with_reducible rfl))
                            case rest10 =>
                              (try simp only [Act.put, List.setIfInBounds_toArray, List.set_cons_zero, List.set_cons_succ, List.getElem_toArray, List.getElem_cons_zero, List.getElem_cons_succ])
                              refine wpAnyH_take (i := 11) (v := ?vv11) rfl (by kernel_rfl) (by kernel_rfl) (by kernel_rfl) (fun _ _ _ h => h) (Or.inl ⟨by rfl, ?hy11⟩) (by assumption) ?rest11
                              case hy11 => (intro w hSw; (try dsimp only at hSw); go_simp; (try with_reducible rfl))
                              case rest11 =>
                                (try simp only [Act.put, List.setIfInBounds_toArray, List.set_cons_zero, List.set_cons_succ, List.getElem_toArray, List.getElem_cons_zero, List.getElem_cons_succ])
                                refine wpAnyH_take (i := 13) (v := ?vv13) rfl (by kernel_rfl) (by kernel_rfl) (by kernel_rfl) (fun _ _ _ h => h) (Or.inl ⟨by rfl, ?hy13⟩) (by assumption) ?rest13
                                case hy13 => (intro w hSw; (try dsimp only at hSw); go_simp; (try with_reducible rfl))
                                case rest13 =>
                                  (try simp only [Act.put, List.setIfInBounds_toArray, List.set_cons_zero, List.set_cons_succ, List.getElem_toArray, List.getElem_cons_zero, List.getElem_cons_succ])
                                  refine wpAnyH_ready (rs := [12]) (by kernel_rfl) (by simp) ?_
                                  refine AllReadyH.cons rfl (fun K hK => ?_) AllReadyH.nil
                                  go_simp
                                  (go_at_call 47; (with_reducible refine (equalSpace_was _ _ _ _ _ _ _ _ _ r io12 is12 hCl hn HRS.out).mono ?_); rintro e w13 ⟨rfl, b13⟩; have M13 := hide (M12.out.below b13); have is13 := M13.out.2.1; have io13 := M13.out.2.2.2.1; clear b13)
                                  go_wp2_with fail
                                  refine hK.out _ _ ?_ (fun hHeld => ?_)
                                  · exact ⟨M13.out.1.2.1, M13.out.1.2.2, M13.out.2.2.1.2.1, M13.out.2.2.1.2.2, M13.out.2.2.2.2.1.2.1, M13.out.2.2.2.2.1.2.2⟩
                                  clear hK K
                                  (try simp only [Act.put, List.setIfInBounds_toArray, List.set_cons_zero, List.set_cons_succ, List.getElem_toArray, List.getElem_cons_zero, List.getElem_cons_succ])
                                  refine wpAnyH_ready (rs := [14]) (by kernel_rfl) (by simp) ?_
                                  refine AllReadyH.cons rfl (fun K hK => ?_) AllReadyH.nil
                                  go_simp
                                  (go_at_call 49; (with_reducible refine (implIs_was _ _ _ _ _ r is13 hn HCV.out HR.out).mono ?_); rintro e w14 ⟨rfl, b14⟩; have M14 := hide (M13.out.below b14); have is14 := M14.out.2.1; have io14 := M14.out.2.2.2.1; clear b14)
                                  go_wp2_with fail
                                  refine hK.out _ _ ?_ (fun hHeld => ?_)
                                  · exact ⟨M14.out.1.2.1, M14.out.1.2.2, M14.out.2.2.1.2.1, M14.out.2.2.1.2.2, M14.out.2.2.2.2.1.2.1, M14.out.2.2.2.2.1.2.2⟩
                                  clear hK K
                                  (try simp only [Act.put, List.setIfInBounds_toArray, List.set_cons_zero, List.set_cons_succ, List.getElem_toArray, List.getElem_cons_zero, List.getElem_cons_succ])
                                  refine wpAnyH_take (i := 15) (v := ?vv15) rfl (by kernel_rfl) (by kernel_rfl) (by kernel_rfl) (fun _ _ _ h => h) (Or.inl ⟨by rfl, ?hy15⟩) (by assumption) ?rest15
                                  case hy15 => (intro w hSw; (try dsimp only at hSw); go_simp; (try with_reducible rfl))
                                  case rest15 =>
                                    (try simp only [Act.put, List.setIfInBounds_toArray, List.set_cons_zero, List.set_cons_succ, List.getElem_toArray, List.getElem_cons_zero, List.getElem_cons_succ])
                                    (try simp only [hrr])
                                    refine wpAnyH_take (i := 16) (v := ?vv16) rfl (by kernel_rfl) (by kernel_rfl) (by kernel_rfl) (fun _ _ _ h => h) (Or.inl ⟨by rfl, ?hy16⟩) (by assumption) ?rest16
                                    case hy16 => (intro w hSw; (try dsimp only at hSw); go_simp; (try with_reducible rfl))
                                    case rest16 =>
                                      (try simp only [Act.put, List.setIfInBounds_toArray, List.set_cons_zero, List.set_cons_succ, List.getElem_toArray, List.getElem_cons_zero, List.getElem_cons_succ])
                                      refine wpAnyH_take (i := 17) (v := ?vv17) rfl (by kernel_rfl) (by kernel_rfl) (by kernel_rfl) (fun _ _ _ h => h) (Or.inl ⟨by rfl, ?hy17⟩) (by assumption) ?rest17
                                      case hy17 => (intro w hSw; (try dsimp only at hSw); go_simp; (try with_reducible rfl))
                                      case rest17 =>
                                        (try simp only [Act.put, List.setIfInBounds_toArray, List.set_cons_zero, List.set_cons_succ, List.getElem_toArray, List.getElem_cons_zero, List.getElem_cons_succ])
                                        refine wpAnyH_take (i := 18) (v := ?vv18) rfl (by kernel_rfl) (by kernel_rfl) (by kernel_rfl) (fun _ _ _ h => h) (Or.inl ⟨by rfl, ?hy18⟩) (by assumption) ?rest18
                                        case hy18 => (intro w hSw; (try dsimp only at hSw); go_simp; (try with_reducible rfl))
                                        case rest18 =>
                                          (try simp only [Act.put, List.setIfInBounds_toArray, List.set_cons_zero, List.set_cons_succ, List.getElem_toArray, List.getElem_cons_zero, List.getElem_cons_succ])
                                          refine wpAnyH_take (i := 19) (v := ?vv19) rfl (by kernel_rfl) (by kernel_rfl) (by kernel_rfl) (fun _ _ _ h => h) (Or.inl ⟨by rfl, ?hy19⟩) (by assumption) ?rest19
                                          case hy19 => (intro w hSw; (try dsimp only at hSw); go_simp; (try with_reducible rfl))
                                          case rest19 =>
                                            (try simp only [Act.put, List.setIfInBounds_toArray, List.set_cons_zero, List.set_cons_succ, List.getElem_toArray, List.getElem_cons_zero, List.getElem_cons_succ])
                                            refine wpAnyH_take (i := 20) (v := ?vv20) rfl (by kernel_rfl) (by kernel_rfl) (by kernel_rfl) (fun _ _ _ h => h) (Or.inl ⟨by rfl, ?hy20⟩) (by assumption) ?rest20
                                            case hy20 => (intro w hSw; (try dsimp only at hSw); go_simp; (try with_reducible rfl))
                                            case rest20 =>
                                              (try simp only [Act.put, List.setIfInBounds_toArray, List.set_cons_zero, List.set_cons_succ, List.getElem_toArray, List.getElem_cons_zero, List.getElem_cons_succ])
                                              (try simp only [hd2])
                                              refine wpAnyH_take (i := 21) (v := ?vv21) rfl (by kernel_rfl) (by kernel_rfl) (by kernel_rfl) (fun _ _ _ h => h) (Or.inl ⟨by rfl, ?hy21⟩) (by assumption) ?rest21
                                              case hy21 => (intro w hSw; (try dsimp only at hSw); go_simp; (try with_reducible rfl))
                                              case rest21 =>
                                                (try simp only [Act.put, List.setIfInBounds_toArray, List.set_cons_zero, List.set_cons_succ, List.getElem_toArray, List.getElem_cons_zero, List.getElem_cons_succ])
                                                refine wpAnyH_take (i := 22) (v := undef) rfl (by kernel_rfl) (by kernel_rfl) (by kernel_rfl) (fun _ _ _ h => h) (Or.inr ⟨by rfl, rfl⟩) (by assumption) ?_
                                                (try simp only [Act.put, List.setIfInBounds_toArray, List.set_cons_zero, List.set_cons_succ, List.getElem_toArray, List.getElem_cons_zero, List.getElem_cons_succ])
                                                refine wpAnyH_take (i := 23) (v := undef) rfl (by kernel_rfl) (by kernel_rfl) (by kernel_rfl) (fun _ _ _ h => h) (Or.inr ⟨by rfl, rfl⟩) (by assumption) ?_
                                                (try simp only [Act.put, List.setIfInBounds_toArray, List.set_cons_zero, List.set_cons_succ, List.getElem_toArray, List.getElem_cons_zero, List.getElem_cons_succ])
                                                refine wpAnyH_take (i := 24) (v := undef) rfl (by kernel_rfl) (by kernel_rfl) (by kernel_rfl) (fun _ _ _ h => h) (Or.inr ⟨by rfl, rfl⟩) (by assumption) ?_
                                                (try simp only [Act.put, List.setIfInBounds_toArray, List.set_cons_zero, List.set_cons_succ, List.getElem_toArray, List.getElem_cons_zero, List.getElem_cons_succ])
                                                refine wpAnyH_take (i := 25) (v := undef) rfl (by kernel_rfl) (by kernel_rfl) (by kernel_rfl) (fun _ _ _ h => h) (Or.inr ⟨by rfl, rfl⟩) (by assumption) ?_
                                                (try simp only [Act.put, List.setIfInBounds_toArray, List.set_cons_zero, List.set_cons_succ, List.getElem_toArray, List.getElem_cons_zero, List.getElem_cons_succ])
                                                refine wpAnyH_take (i := 26) (v := undef) rfl (by kernel_rfl) (by kernel_rfl) (by kernel_rfl) (fun _ _ _ h => h) (Or.inr ⟨by rfl, rfl⟩) (by assumption) ?_
                                                (try simp only [Act.put, List.setIfInBounds_toArray, List.set_cons_zero, List.set_cons_succ, List.getElem_toArray, List.getElem_cons_zero, List.getElem_cons_succ])
                                                refine wpAnyH_take (i := 27) (v := undef) rfl (by kernel_rfl) (by kernel_rfl) (by kernel_rfl) (fun _ _ _ h => h) (Or.inr ⟨by rfl, rfl⟩) (by assumption) ?_
                                                (try simp only [Act.put, List.setIfInBounds_toArray, List.set_cons_zero, List.set_cons_succ, List.getElem_toArray, List.getElem_cons_zero, List.getElem_cons_succ])
                                                refine wpAnyH_take (i := 28) (v := ?vv28) rfl (by kernel_rfl) (by kernel_rfl) (by kernel_rfl) (fun _ _ _ h => h) (Or.inl ⟨by rfl, ?hy28⟩) (by assumption) ?rest28
                                                case hy28 => (intro w hSw; (try dsimp only at hSw); go_simp; (try with_reducible rfl))
                                                case rest28 =>
                                                  (try simp only [Act.put, List.setIfInBounds_toArray, List.set_cons_zero, List.set_cons_succ, List.getElem_toArray, List.getElem_cons_zero, List.getElem_cons_succ])
                                                  refine wpAnyH_take (i := 29) (v := ?vv29) rfl (by kernel_rfl) (by kernel_rfl) (by kernel_rfl) (fun _ _ _ h => h) (Or.inl ⟨by rfl, ?hy29⟩) (by assumption) ?rest29
                                                  case hy29 => (intro w hSw; (try dsimp only at hSw); go_simp; (try with_reducible rfl))
                                                  case rest29 =>
                                                    (try simp only [Act.put, List.setIfInBounds_toArray, List.set_cons_zero, List.set_cons_succ, List.getElem_toArray, List.getElem_cons_zero, List.getElem_cons_succ])
                                                    refine wpAnyH_take (i := 30) (v := ?vv30) rfl (by kernel_rfl) (by kernel_rfl) (by kernel_rfl) (fun _ _ _ h => h) (Or.inl ⟨by rfl, ?hy30⟩) (by assumption) ?rest30
                                                    case hy30 => (intro w hSw; (try dsimp only at hSw); go_simp; (try with_reducible rfl))
                                                    case rest30 =>
                                                      (try simp only [Act.put, List.setIfInBounds_toArray, List.set_cons_zero, List.set_cons_succ, List.getElem_toArray, List.getElem_cons_zero, List.getElem_cons_succ])
                                                      refine wpAnyH_done (by kernel_rfl) ?_ _
                                                      go_wp2
                                                      go_ret
                                                      exact ⟨rfl, bnext HB.out M14.out.2.2.2.2.2.2⟩

end Go.Proofs.Ytklgganapphioaa
