/- The law of IsMonotone answers true at every code: opposite rules; its walk. -/
import Derived.Test.YtklfpbidbiippaaPNeut
import Derived.Test.YtklfpbidbiippaaDrawR2
import Derived.Deep.RegionHeld3
import Derived.Deep.QuietTactic
import Derived.BigQuiet
namespace Go.Proofs.Ytklfpbidbiippaa
open Go.RowKit Go.Joins

theorem lawPower8_any (n : Int) (w : World) (h0 : 0 ≤ n) (h4 : n ≤ 8) : Calls Try.prog 26 #[.int .i64 n] w fun e w' => e = .returned (.int .i64 (pw n)) ∧ w = w' := by
  go_enter Try.func26, Try.ntmps26
  go_wp2
  go_loop [0, 3] (fun i o => ∃ k : Int, 0 ≤ k ∧ k ≤ n ∧ i = .int .i64 k ∧ o = .int .i64 (pw (n - k))) (fun i _ => (intOf i).toNat)
  case atStart => exact ⟨n, h0, Int.le_refl _, rfl, by rw [Int.sub_self]; rfl⟩
  case round =>
    obtain ⟨k, hk0, hkn, rfl, rfl⟩ := hrel
    have b1 := pw_pos (n - k)
    have b2 := pw_le8 (n - k) (by omega)
    by_cases hlt : 0 < k
    · go_wp2
      go_round
      case rel => exact ⟨k - 1, by omega, by omega, by go_num, by rw [show n - (k - 1) = (n - k) + 1 from by omega, pw_succ _ (by omega)]⟩
      case measure => simp [intOf]; omega
    · obtain rfl : k = 0 := by omega
      go_wp2
      go_ret
      exact ⟨rfl, rfl⟩
theorem lawBit_any (x j : Int) (w : World) (hx : 0 ≤ x ∧ x ≤ 65535) (hj : 0 ≤ j ∧ j ≤ 8) : Calls Try.prog 37 #[.int .i64 x, .int .i64 j] w fun e w' => e = .returned (.int .i64 (bitN x.toNat j.toNat : Nat)) ∧ w = w' := by
  obtain ⟨a, rfl⟩ := Int.eq_ofNat_of_zero_le hx.1
  have h0 : pw 0 = 1 := rfl
  have h1 : pw 1 = 2 := rfl
  have h2 : pw 2 = 4 := rfl
  have h3 : pw 3 = 8 := rfl
  have h4 : pw 4 = 16 := rfl
  have h5 : pw 5 = 32 := rfl
  have h6 : pw 6 = 64 := rfl
  have h7 : pw 7 = 128 := rfl
  have h8 : pw 8 = 256 := rfl
  have ha : a ≤ 65535 := by omega
  rcases (show j = 0 ∨ j = 1 ∨ j = 2 ∨ j = 3 ∨ j = 4 ∨ j = 5 ∨ j = 6 ∨ j = 7 ∨ j = 8 from by omega) with rfl | rfl | rfl | rfl | rfl | rfl | rfl | rfl | rfl
  all_goals
    go_enter Try.func37, Try.ntmps37
    go_wp2_with (go_at_call 26; refine (lawPower8_any _ _ (by omega) (by omega)).mono ?_; rintro e w' ⟨rfl, rfl⟩)
    go_ret
    exact ⟨ret_int (by unfold bitN; simp only [Int.toNat_natCast]; simp; try omega), rfl⟩
theorem lawBit_is (x j : Int) (b : Nat) (hb : b = bitN x.toNat j.toNat) (w : World) (hx : 0 ≤ x ∧ x ≤ 65535) (hj : 0 ≤ j ∧ j ≤ 8) : Calls Try.prog 37 #[.int .i64 x, .int .i64 j] w fun e w' => e = .returned (.int .i64 (b : Nat)) ∧ w = w' := by
  subst hb
  exact lawBit_any x j w hx hj
/-- the opposite table, bit by bit -/
def dualK (x a : Nat) : Nat → Nat
  | 0 => 0
  | g + 1 => dualK x a g + 2 ^ g * (1 - bitN x (a - 1 - g))
theorem dualK_lt (x a : Nat) : ∀ g, dualK x a g < 2 ^ g
  | 0 => by simp [dualK]
  | g + 1 => by
    have h := dualK_lt x a g
    have h2 : 2 ^ g * (1 - bitN x (a - 1 - g)) ≤ 2 ^ g * 1 := Nat.mul_le_mul_left _ (by omega)
    rw [dualK, Nat.pow_succ]
    omega
theorem dualK_one {x a g : Nat} (h : bitN x (a - 1 - g) = 1) : dualK x a (g + 1) = dualK x a g := by rw [dualK, h]; simp
theorem dualK_not {x a g : Nat} (h : bitN x (a - 1 - g) = 0) : dualK x a (g + 1) = dualK x a g + 2 ^ g := by rw [dualK, h]; simp
def dualI (v x : Int) : Int := ((dualK x.toNat (pw v).toNat (pw v).toNat : Nat) : Int)
set_option maxRecDepth 100000 in
theorem mono_dual0 : ∀ v : Fin 3, ∀ x : Fin 256, holdMono ((v.val : Nat) + 1 : Int) ((dualK x.val (2 ^ (v.val + 1)) (2 ^ (v.val + 1)) : Nat) : Int) = holdMono ((v.val : Nat) + 1 : Int) ((x.val : Nat) : Int) := by decide +kernel
theorem mono_dual {v x : Int} (hv : 1 ≤ v ∧ v ≤ 3) (hx : 0 ≤ x ∧ x ≤ 255) : holdMono v (dualI v x) = holdMono v x := by
  have h := mono_dual0 ⟨(v - 1).toNat, by omega⟩ ⟨x.toNat, by omega⟩
  have e1 : (((v - 1).toNat : Nat) : Int) + 1 = v := by omega
  have e2 : ((x.toNat : Nat) : Int) = x := by omega
  have e3 : 2 ^ ((v - 1).toNat + 1) = (pw v).toNat := by
    have e : (v - 1).toNat + 1 = v.toNat := by omega
    unfold pw
    rw [e, Int.toNat_natCast]
  dsimp only at h
  rw [e1, e2, e3] at h
  exact h
theorem mono_opp {n v : Int} {zs ws : List Int} (hv : vrB n zs v ws = true) : monoR n zs v (ws.map (dualI v)) = monoR n zs v ws := by
  obtain ⟨hV, hr⟩ := vr_of hv
  have hv' : vrB n zs v (ws.map (dualI v)) = true := vr_mk hV ⟨hr.1, by rw [List.length_map]; exact hr.2.1, fun j hj => by
    have hj' : j < ws.length := by simpa using hj
    rw [getD_lt hj, List.getElem_map]
    unfold okWin dualI
    have h := dualK_lt (ws[j]'hj').toNat (pw v).toNat (pw v).toNat
    have e : pw (pw v) = ((2 ^ (pw v).toNat : Nat) : Int) := rfl
    rw [decide_eq_true_iff, e]
    omega⟩
  rw [monoR_yes hv, monoR_yes hv', Bool.eq_iff_iff, any_hold, any_hold]
  constructor
  · intro h x hx
    rw [← mono_dual hr.1 (hr.range x hx)]
    exact h _ (List.mem_map_of_mem hx)
  · intro h y hy
    obtain ⟨x, hx, rfl⟩ := List.mem_map.1 hy
    rw [mono_dual hr.1 (hr.range x hx)]
    exact h x hx
/-- the other rule under way -/
def OI (w4 : World) (G : Nat) (v : Int) (vv : Value) (os : List Int) (wq : World) : Prop :=
  wq.heap[G]? = some (.cells #[.int .i64 v, vv] 41 (0, 0)) ∧ Owns wq (G + 1) vv os ∧ Below w4.heap.size w4 wq ∧ w4.heap.size ≤ G
theorem OI.below {w4 : World} {G : Nat} {v : Int} {vv : Value} {os : List Int} {wq w' : World} (h : OI w4 G v vv os wq) (hb : Below wq.heap.size wq w') : OI w4 G v vv os w' :=
  ⟨(hb.block _ (lt_of_block h.1)).trans h.1, h.2.1.below hb, bnext h.2.2.1 hb, h.2.2.2⟩
theorem OI.push {w4 : World} {G : Nat} {v z : Int} {vv v' : Value} {os : List Int} {wq w5 : World} (h : OI w4 G v vv os wq) (hg : wq.grownBy w5 vv.ownBlock)
    (ho : w5.ownsRow (G + 1) 3 1 v' (os.length + 1) (os.map (Value.int .i64) ++ [.int .i64 z])) : OI w4 G v v' (os ++ [z]) (w5.setCell ⟨G, 1, none⟩ v') ∧ w5.heap[G]? = some (.cells #[.int .i64 v, vv] 41 (0, 0)) := by
  obtain ⟨h1, h2, h3, h4⟩ := h
  have hge := own_ge h2
  have hl := lt_of_block h1
  have hb : w5.heap[G]? = some (.cells #[.int .i64 v, vv] 41 (0, 0)) := (hg.block _ hl (fun e => by have := hge _ e.symm; omega)).trans h1
  exact ⟨⟨block_setCell (i := 1) hb _, (Owns.push ho).setBelow (p := ⟨G, 1, none⟩) (by show G < G + 1; omega) _, (bgrown h3 hg h3.size (fun k hk => by have := hge k hk; omega)).setCell (p := ⟨G, 1, none⟩) (by show w4.heap.size ≤ G; omega) _, h4⟩, hb⟩
set_option maxHeartbeats 8000000 in
set_option maxRecDepth 100000 in
theorem walk_FnIsMonotone (a : Option Addr) (zs : List Nat) (cap : Nat) (w : World) (hi : Byts w a zs) (hl : zs.length ≤ maxLen) (hc : zs.length ≤ cap) :
    Calls Try.prog 6 #[.slice a zs.length cap] w fun e w' => e = .returned (.bool true) ∧ Below w.heap.size w w' := by
  obtain ⟨i0, hi0, hz0, hz1, hz2⟩ := info_parts info_int
  by_cases h : 1048576 < zs.length
  · unfold maxLen at hl
    go_enter Try.func6, Try.ntmps6
    go_wp2
    go_ret
    exact ⟨rfl, Below.refl _ _⟩
  · have hl' : zs.length ≤ 1048576 := by omega
    clear h hl
    go_enter Try.func6, Try.ntmps6
    go_wp2_with fail
    refine (drawIsMonotone_any _ _ _ _ hi hl' hc).mono ?_
    rintro e w1 ⟨m, av, ss, cv, v, bv, ws, cb, rfl, iv, hsl, iw, hwl, hb⟩
    have S0 := SR.new w1 m v av bv ss ws cv cb 25 41 iv iw
    have HB := hide hb
    have hn : ss.length ≤ 1048576 := by omega
    have hm : ws.length ≤ 1048576 := by omega
    have HWL := hide hwl
    clear hb hi iv iw hl' hsl hwl
    obtain ⟨c0, c1, d0, d1⟩ := S0.cells5
    obtain ⟨nb, hnb⟩ : ∃ r, monoR m ss v ws = r := ⟨_, rfl⟩
    have HNB := hide hnb
    clear hnb
    go_wp2_with fail
    refine (implMono_was _ _ _ _ _ _ _ _ _ _ S0.2.2.1 S0.2.2.2.1 hn hm HNB.out).mono ?_
    rintro e w2 ⟨rfl, b2⟩
    have S2 := S0.below b2
    clear c0 c1 d0 d1 S0 b2
    obtain ⟨c0, c1, d0, d1⟩ := S2.cells5
    go_wp2_with fail
    refine (specMono_was _ _ _ _ _ _ _ _ _ _ S2.2.2.1 S2.2.2.2.1 hn hm HNB.out).mono ?_
    rintro e w3 ⟨rfl, b3⟩
    have S3 := S2.below b3
    clear c0 c1 d0 d1 S2 b3
    obtain ⟨c0, c1, d0, d1⟩ := S3.cells5
    have hne : (nb != nb) = false := by simp
    by_cases hv : vrB m ss v ws = false
    · have HV := hide hv
      clear hv
      go_wp2_with fail
      refine (implRule_was _ _ _ _ _ _ _ _ _ _ S3.2.2.1 S3.2.2.2.1 hn hm HV.out).mono ?_
      rintro e w4 ⟨rfl, b4⟩
      have S4 := S3.below b4
      clear c0 c1 d0 d1 S3 b4
      obtain ⟨c0, c1, d0, d1⟩ := S4.cells5
      go_wp2_with fail
      refine (specMono_was _ _ _ _ _ _ _ _ _ _ S4.2.2.1 S4.2.2.2.1 hn hm HNB.out).mono ?_
      rintro e w5 ⟨rfl, b5⟩
      go_wp2
      go_ret
      exact ⟨ret_bool (by simp), bnext HB.out (S4.below b5).2.2.2.2⟩
    · have hv : vrB m ss v ws = true := by simpa using hv
      have hv3 := (vr_of hv).2.1
      have HRG := hide ((vr_of hv).2.range)
      have HV := hide hv
      clear hv
      go_wp2_with fail
      refine (implRule_was _ _ _ _ _ _ _ _ _ _ S3.2.2.1 S3.2.2.2.1 hn hm HV.out).mono ?_
      rintro e w4 ⟨rfl, b4⟩
      have S4 := S3.below b4
      clear c0 c1 d0 d1 S3 b4
      obtain ⟨c0, c1, d0, d1⟩ := S4.cells5
      obtain ⟨A, hA⟩ : ∃ A : Nat, (pw v).toNat = A := ⟨_, rfl⟩
      have p1 := pw_pos v
      have p2 := pw_le3 v hv3.2
      have hA2 : pw v = (A : Int) := by omega
      have hA8 : A ≤ 8 := by omega
      have HA := hide hA2
      have HA1 := hide hA
      clear hA hA2 p1 p2
      go_wp2_with (go_at_call 26; refine (lawPower8_any _ _ (by omega) (by omega)).mono ?_; rintro e w' ⟨rfl, rfl⟩; rw [HA.out])
      have O0 : OI w4 w4.heap.size v (.slice none 0 0) [] (w4.alloc (.cells #[.int .i64 v, .slice none 0 0] 41)) := ⟨heap_alloc_new w4 _, World.ownsRow_nil _ _ _ _, bel1 _ _, Nat.le_refl _⟩
      have HS4 := hide S4
      clear S4 c0 c1 d0 d1
      obtain ⟨G, hG⟩ : ∃ G, G = w4.heap.size := ⟨_, rfl⟩
      rw [← hG] at O0 ⊢
      clear hG
      go_loopw [8] (fun i wq => ∃ (j : Nat) (vv : Value) (os : List Int), j ≤ ws.length ∧ i = .int .i64 j ∧ os = (ws.take j).map (dualI v) ∧ OI w4 G v vv os wq) (fun i _ => ws.length - (intOf i).toNat)
      case atStart => exact ⟨0, _, [], Nat.zero_le _, rfl, by simp, O0⟩
      case round =>
        clear O0
        obtain ⟨j, vv, os, hj, rfl, hos, hs⟩ := hrel
        have hsr := HS4.out.below hs.2.2.1
        have HOS := hide hos
        have hol : os.length ≤ 8 := by
          rw [hos, List.length_map, List.length_take]
          have := HWL.out
          omega
        obtain ⟨va, vc, rfl, _, _⟩ := hs.2.1.form
        clear hos
        by_cases hlt : j < ws.length
        · obtain ⟨wb, wo0, rfl, hbl, hcc⟩ := hsr.2.2.2.1 (by omega)
          have hck := hcc j hlt
          rw [getD_lt hlt] at hck
          obtain ⟨x, hx⟩ : ∃ x, x = ws[j] := ⟨_, rfl⟩
          have hxr := HRG.out ws[j] (List.getElem_mem hlt)
          rw [← hx] at hck hxr
          have HX := hide hx
          have HBL := hide hbl
          have HCK := hide hck
          have HS := hide hs
          have HSR := hide hsr
          have hGl := lt_of_block hs.1
          obtain ⟨c0, c1, d0, d1⟩ := hsr.cells5
          clear hcc hx hbl hck hs hsr
          obtain ⟨wo, hwo⟩ : ∃ wo : World, wo = wr := ⟨_, rfl⟩
          subst hwo
          go_wp2_with fail
          clear c0 c1 d0 d1
          go_loopw [9, 10] (fun u g wq => ∃ (t : Nat) (y : Int), t ≤ A ∧ g = .int .i64 t ∧ u = .int .i64 y ∧ y = ((dualK x.toNat A t : Nat) : Int) ∧ Below wo.heap.size wo wq) (fun _ g _ => 8 - (intOf g).toNat)
          case atStart => exact ⟨0, 0, Nat.zero_le _, rfl, rfl, rfl, Below.refl _ _⟩
          case round =>
            obtain ⟨t, y, ht, rfl, rfl, hy, BI⟩ := hrel
            have hyl := dualK_lt x.toNat A t
            have hy2 : 2 ^ t ≤ 2 ^ 8 := Nat.pow_le_pow_right (by omega) (by omega)
            have hyr : 0 ≤ y ∧ y < 256 := by omega
            have HY := hide hy
            clear hy hyl hy2
            obtain ⟨c0, c1, d0, d1⟩ := (HSR.out.below BI).cells5
            have hck := (BI.cell (p := ⟨wb, wo0 + j, none⟩) HBL.out).trans HCK.out
            have BIH := hide BI
            by_cases hlt2 : t < A
            · have t1 := pw_pos (t : Int)
              have t2 := pw_le8 (t : Int) (by omega)
              obtain ⟨b, hb⟩ : ∃ b, b = bitN x.toNat ((A : Int) - 1 - (t : Int)).toNat := ⟨_, rfl⟩
              have hbe : ((A : Int) - 1 - (t : Int)).toNat = A - 1 - t := by omega
              have hb2 := bitN_le x.toNat ((A : Int) - 1 - (t : Int)).toNat
              rw [← hb] at hb2
              have HBB := hide hb
              have HPT : Hid (pw (t : Int) = ((2 ^ t : Nat) : Int)) := by unfold Hid pw; rw [Int.toNat_natCast]
              have HBE := hide hbe
              clear hb hbe BI
              rcases (show b = 0 ∨ b = 1 from by omega) with rfl | rfl
              · clear hb2
                go_wp2
                go_quiet ((first
                  | (go_at_call 26; exact quiet_left (lawPower8_any _ _ (by omega) (by omega)))
                  | (go_at_call 37; exact quiet_left (lawBit_is _ _ 0 HBB.out _ ⟨by omega, by omega⟩ ⟨by omega, by omega⟩))))
                go_wp2
                go_roundw
                case rel => exact ⟨t + 1, y + pw (t : Int), by omega, by go_num, by go_num, by rw [dualK_not (by rw [← HBE.out]; exact HBB.out.symm), HY.out, HPT.out]; omega, bnext BIH.out (belN _ _)⟩
                case measure => simp only [intOf]; omega
              · clear hb2
                go_wp2
                go_quiet ((first
                  | (go_at_call 26; exact quiet_left (lawPower8_any _ _ (by omega) (by omega)))
                  | (go_at_call 37; exact quiet_left (lawBit_is _ _ 1 HBB.out _ ⟨by omega, by omega⟩ ⟨by omega, by omega⟩))))
                go_wp2
                go_roundw
                case rel => exact ⟨t + 1, y, by omega, by go_num, by go_num, by rw [dualK_one (by rw [← HBE.out]; exact HBB.out.symm)]; exact HY.out, bnext BIH.out (belN _ _)⟩
                case measure => simp only [intOf]; omega
            · obtain rfl : t = A := by omega
              have hs := HS.out.below BI
              have g1 := cell_of_block hs.1 1
              have f1 := unfrozen_of_block hs.1 1
              have hown := hs.2.1
              have hGl2 := lt_of_block hs.1
              have HSS := hide hs
              clear hs BI hck c0 c1 d0 d1
              go_wp2_with ((at_builtin; refine wpList_append_own _ rfl _ _ 23 rfl (G + 1) 3 i0 (.int .i64 0) 1 8 Try.underlying23 hi0 hz0 hz1 hz2 rfl (by decide) _ _ _ rfl (hown.alloc _) ⟨wr.heap.size, 0, none⟩ 1 1 [.int .i64 y] rfl rfl (cell_one_new wr _ _) (by intro u hu; simp at hu; subst hu; rfl) (by unfold maxLen; omega) (by omega) (by first | omega | (simp; omega)) ?_))
              intro v' w5 hown' hgrow _
              obtain ⟨HP, hb5⟩ := (HSS.out.below (bel1 wr (.cells #[.int .i64 y] 3))).push hgrow hown'
              obtain ⟨zz, hzz⟩ : ∃ zz : List Int, zz = os ++ [y] := ⟨_, rfl⟩
              rw [← hzz] at HP
              have HZ : Hid (zz = (ws.take (j + 1)).map (dualI v)) := by
                unfold Hid
                rw [hzz, List.take_add_one, List.getElem?_eq_getElem hlt, List.map_append, HOS.out, HY.out, HX.out]
                unfold dualI
                rw [HA1.out]
                rfl
              obtain ⟨av', cv', rfl, _, _⟩ := HP.2.1.form
              have f5 := unfrozen_of_block hb5 1
              have g5 := cell_of_block hb5 1
              have HQ := hide HP
              clear hown hown' hgrow hb5 HP hzz g1 f1
              go_wp2
              go_roundw
              case rel => exact ⟨j + 1, _, zz, by omega, by go_num, HZ.out, HQ.out⟩
              case measure => simp only [intOf]; omega
        · obtain rfl : j = ws.length := by omega
          have hmo := mono_opp HV.out
          rw [HNB.out] at hmo
          have e := HOS.out
          rw [List.take_length] at e
          rw [← e] at hmo
          have HMO := hide hmo
          have HS := hide hs
          have iv := hs.2.1.ints
          obtain ⟨c0, c1, d0, d1⟩ := hsr.cells5
          have g0 := cell_of_block hs.1 0
          have g1 := cell_of_block hs.1 1
          clear hmo e hs
          go_wp2_with fail
          refine (implMono_was _ _ _ _ _ _ _ _ _ _ hsr.2.2.1 iv hn (by omega) HMO.out).mono ?_
          rintro e w6 ⟨rfl, b6⟩
          go_wp2
          go_ret
          exact ⟨ret_bool (by simp), bnext HB.out (hsr.below b6).2.2.2.2⟩
end Go.Proofs.Ytklfpbidbiippaa
