/- The law of EvenClosure answers true at every code: its walk. -/
import Derived.Test.YtklfpbidbiippaaDrawE
import Derived.Test.YtklfpbidbiippaaCloM
import Derived.Test.YtklfpbidbiippaaGrow
import Derived.Test.YtklfpbidbiippaaEqSp
import Derived.Test.YtklfpbidbiippaaParI
import Derived.Deep.RegionHeld3
namespace Go.Proofs.Ytklfpbidbiippaa
open Go.RowKit Go.Joins

/-- the space and its closure in variables, and a third space -/
def MC (w1 : World) (m : Int) (av : Option Addr) (ss : List Int) (cv g2 : Nat) (nn : Int) (oa : Option Addr) (C : List Int) (oc g8 : Nat) (xn : Int) (xa : Option Addr) (xl : List Int) (xc : Nat) (w' : World) : Prop :=
  Box w' w1.heap.size m av ss.length cv ∧ Ints w' av ss ∧ Box w' g2 nn oa C.length oc ∧ Ints w' oa C ∧ Box w' g8 xn xa xl.length xc ∧ Ints w' xa xl ∧ Below w1.heap.size w1 w'
theorem MC.below {w1 wx wy : World} {m : Int} {av : Option Addr} {ss : List Int} {cv g2 : Nat} {nn : Int} {oa : Option Addr} {C : List Int} {oc g8 : Nat} {xn : Int} {xa : Option Addr} {xl : List Int} {xc : Nat} (h : MC w1 m av ss cv g2 nn oa C oc g8 xn xa xl xc wx) (hb : Below wx.heap.size wx wy) : MC w1 m av ss cv g2 nn oa C oc g8 xn xa xl xc wy :=
  ⟨h.1.below hb, h.2.1.below hb, h.2.2.1.below hb, h.2.2.2.1.below hb, h.2.2.2.2.1.below hb, h.2.2.2.2.2.1.below hb, bnext h.2.2.2.2.2.2 hb⟩
theorem MC.drew {w1 wx : World} {m : Int} {av : Option Addr} {ss : List Int} {cv g2 : Nat} {nn : Int} {oa : Option Addr} {C : List Int} {oc g8 : Nat} {xn : Int} {xa : Option Addr} {xl : List Int} {xc : Nat} (h : MC w1 m av ss cv g2 nn oa C oc g8 xn xa xl xc wx) : MC w1 m av ss cv g2 nn oa C oc g8 xn xa xl xc wx.drew := h.below (bdrew' (Below.refl _ _))
theorem MC.third {w1 wx : World} {m : Int} {av : Option Addr} {ss : List Int} {cv g2 : Nat} {nn : Int} {oa : Option Addr} {C : List Int} {oc g8 g9 : Nat} {xn yn : Int} {xa ya : Option Addr} {xl yl : List Int} {xc yc : Nat} (h : MC w1 m av ss cv g2 nn oa C oc g8 xn xa xl xc wx) (hb : Box wx g9 yn ya yl.length yc) (hi : Ints wx ya yl) : MC w1 m av ss cv g2 nn oa C oc g9 yn ya yl yc wx :=
  ⟨h.1, h.2.1, h.2.2.1, h.2.2.2.1, hb, hi, h.2.2.2.2.2.2⟩
theorem implValid_wasC (n : Int) (a : Option Addr) (cap : Nat) (zs : List Int) (w : World) (r : Bool) (hi : Ints w a zs) (hn : zs.length ≤ 1048576) (hr : vsB n zs = r) :
    Calls Try.prog 23 #[.agg #[.int .i64 n, .slice a zs.length cap]] w fun e w' => e = .returned (.bool r) ∧ Below w.heap.size w w' := by
  subst hr
  exact implValidSpace_any n a cap zs w hi hn
theorem specClo_was (n : Int) (a : Option Addr) (cap : Nat) (zs : List Int) (nn : Int) (C : List Int) (w : World) (hi : Ints w a zs) (hn : zs.length ≤ 1048576) (h1 : cloN n zs = nn) (h2 : cloL par n zs = C) :
    Calls Try.prog 22 #[.agg #[.int .i64 n, .slice a zs.length cap]] w (GivesS nn C w) := by
  subst h1 h2
  exact specEvenClosure_any n a cap zs w hi hn
theorem implClo_was (n : Int) (a : Option Addr) (cap : Nat) (zs : List Int) (nn : Int) (C : List Int) (w : World) (hi : Ints w a zs) (hn : zs.length ≤ 1048576) (hcap : zs.length ≤ cap) (h1 : cloN n zs = nn) (h2 : cloL par n zs = C) :
    Calls Try.prog 20 #[.agg #[.int .i64 n, .slice a zs.length cap]] w (GivesS nn C w) := by
  subst h1 h2
  exact implEvenClosure_any n a cap zs w hi hn hcap
theorem implIs_was (n : Int) (a : Option Addr) (cap : Nat) (zs : List Int) (w : World) (r : Bool) (hi : Ints w a zs) (hn : zs.length ≤ 1048576) (hcap : zs.length ≤ cap) (hr : closedB par n zs = r) :
    Calls Try.prog 24 #[.agg #[.int .i64 n, .slice a zs.length cap]] w fun e w' => e = .returned (.bool r) ∧ Below w.heap.size w w' := by
  subst hr
  exact implIsEven_any n a cap zs w hi hn hcap
theorem parlt (N : Nat) : ∀ x y z, x < 2 ^ N → y < 2 ^ N → z < 2 ^ N → par x y z < 2 ^ N := fun _ _ _ hx hy hz => Nat.xor_lt_two_pow (Nat.xor_lt_two_pow hx hy) hz
theorem nodup_len {α : Type} [DecidableEq α] : ∀ (l m : List α), l.Nodup → (∀ x ∈ l, x ∈ m) → l.length ≤ m.length
  | [], _, _, _ => by simp
  | a :: l, m, hn, h => by
    obtain ⟨ha, hl⟩ := List.nodup_cons.1 hn
    have hm : a ∈ m := h a (by simp)
    have ih := nodup_len l (m.erase a) hl (fun x hx => (List.mem_erase_of_ne (show x ≠ a from fun e => ha (by rw [← e]; exact hx))).2 (h x (by simp [hx])))
    rw [List.length_erase_of_mem hm] at ih
    have : 0 < m.length := List.length_pos_of_mem hm
    simp only [List.length_cons]
    omega
/-- all sums of some numbers -/
def spanL : List Nat → List Nat
  | [] => [0]
  | d :: ds => spanL ds ++ (spanL ds).map (d ^^^ ·)
theorem spanL_len : ∀ ds, (spanL ds).length = 2 ^ ds.length
  | [] => rfl
  | d :: ds => by rw [spanL, List.length_append, List.length_map, spanL_len ds, List.length_cons, Nat.pow_succ]; omega
theorem spanL_zero : ∀ ds, 0 ∈ spanL ds
  | [] => by simp [spanL]
  | d :: ds => by rw [spanL]; exact List.mem_append.2 (.inl (spanL_zero ds))
theorem spanL_mem : ∀ (ds : List Nat) (x : Nat), x ∈ ds → x ∈ spanL ds
  | d :: ds, x, h => by
    rw [spanL]
    rcases List.mem_cons.1 h with rfl | h
    · exact List.mem_append.2 (.inr (List.mem_map.2 ⟨0, spanL_zero ds, by simp⟩))
    · exact List.mem_append.2 (.inl (spanL_mem ds x h))
theorem spanL_add : ∀ (ds : List Nat) (x y : Nat), x ∈ spanL ds → y ∈ spanL ds → x ^^^ y ∈ spanL ds
  | [], x, y, hx, hy => by simp [spanL] at *; rw [hx, hy]; rfl
  | d :: ds, x, y, hx, hy => by
    rw [spanL] at *
    rcases List.mem_append.1 hx with hx | hx <;> rcases List.mem_append.1 hy with hy | hy
    · exact List.mem_append.2 (.inl (spanL_add ds x y hx hy))
    · obtain ⟨b, hb, rfl⟩ := List.mem_map.1 hy
      exact List.mem_append.2 (.inr (List.mem_map.2 ⟨x ^^^ b, spanL_add ds x b hx hb, by show d ^^^ (x ^^^ b) = x ^^^ (d ^^^ b); rw [← Nat.xor_assoc, Nat.xor_comm d x, Nat.xor_assoc]⟩))
    · obtain ⟨a, ha, rfl⟩ := List.mem_map.1 hx
      exact List.mem_append.2 (.inr (List.mem_map.2 ⟨a ^^^ y, spanL_add ds a y ha hy, by show d ^^^ (a ^^^ y) = (d ^^^ a) ^^^ y; rw [Nat.xor_assoc]⟩))
    · obtain ⟨a, ha, rfl⟩ := List.mem_map.1 hx
      obtain ⟨b, hb, rfl⟩ := List.mem_map.1 hy
      refine List.mem_append.2 (.inl ?_)
      have e : d ^^^ a ^^^ (d ^^^ b) = a ^^^ b := by rw [Nat.xor_comm d a, Nat.xor_assoc, ← Nat.xor_assoc d d b, Nat.xor_self, Nat.zero_xor]
      show d ^^^ a ^^^ (d ^^^ b) ∈ spanL ds
      rw [e]
      exact spanL_add ds a b ha hb
/-- an even closure is at most as many as sums -/
theorem even_len {N : Nat} {zs : List Int} (hV : Valid (N : Int) zs) : ((cloT par zs).length : Int) ≤ pw ((zs.length : Int) - 1) := by
  have hpos := hV.2.1
  obtain ⟨l, hl⟩ : ∃ l, l = zs.map Int.toNat := ⟨_, rfl⟩
  have hll : l.length = zs.length := by rw [hl, List.length_map]
  have h16 := (valid_nat hV).2
  rw [← hl] at h16
  rcases l with _ | ⟨z, t⟩
  · simp at hll
    omega
  · have hsub : ∀ x ∈ clo par (z :: t), x ∈ (spanL (t.map (z ^^^ ·))).map (z ^^^ ·) := by
      refine cloK_min join_par (T := fun x => x ∈ (spanL (t.map (z ^^^ ·))).map (z ^^^ ·)) (fun a b c ha hb hc => ?_) _ _ h16 (fun x hx => ?_)
      · obtain ⟨a', ha', rfl⟩ := List.mem_map.1 ha
        obtain ⟨b', hb', rfl⟩ := List.mem_map.1 hb
        obtain ⟨c', hc', rfl⟩ := List.mem_map.1 hc
        refine List.mem_map.2 ⟨a' ^^^ b' ^^^ c', spanL_add _ _ _ (spanL_add _ _ _ ha' hb') hc', ?_⟩
        show z ^^^ (a' ^^^ b' ^^^ c') = par (z ^^^ a') (z ^^^ b') (z ^^^ c')
        unfold par
        apply Nat.eq_of_testBit_eq
        intro i
        simp only [Nat.testBit_xor]
        cases z.testBit i <;> cases a'.testBit i <;> cases b'.testBit i <;> cases c'.testBit i <;> rfl
      · rcases List.mem_cons.1 hx with rfl | hx
        · exact List.mem_map.2 ⟨0, spanL_zero _, by simp⟩
        · exact List.mem_map.2 ⟨z ^^^ x, spanL_mem _ _ (List.mem_map.2 ⟨x, hx, rfl⟩), by show z ^^^ (z ^^^ x) = x; rw [← Nat.xor_assoc, Nat.xor_self, Nat.zero_xor]⟩
    have hnd : (clo par (z :: t)).Nodup := (cloK_asc par _ _).imp (fun h => by omega)
    have hlen := nodup_len _ _ hnd hsub
    rw [List.length_map, spanL_len, List.length_map] at hlen
    have e1 : (cloT par zs).length = (clo par (z :: t)).length := by unfold cloT; rw [List.length_map, hl]
    have e2 : ((zs.length : Int) - 1).toNat = t.length := by rw [← hll, List.length_cons]; omega
    unfold pw
    rw [e1, e2]
    omega
theorem valid_16 {N : Nat} {zs : List Int} (hV : Valid (N : Int) zs) : zs.length ≤ 16 := by
  have h := asc_len16 (valid_nat hV).1 (valid_nat hV).2
  simpa using h
theorem pw_le15 (n : Int) (h : n ≤ 15) : pw n ≤ 32768 := by
  unfold pw
  have h1 : n.toNat ≤ 15 := by omega
  have : 2 ^ n.toNat ≤ 2 ^ 15 := Nat.pow_le_pow_right (by omega) h1
  omega
theorem lawPower15_any (n : Int) (w : World) (h0 : 0 ≤ n) (h4 : n ≤ 15) : Calls Try.prog 26 #[.int .i64 n] w fun e w' => e = .returned (.int .i64 (pw n)) ∧ w = w' := by
  go_enter Try.func26, Try.ntmps26
  go_wp2
  go_loop [0, 3] (fun i o => ∃ k : Int, 0 ≤ k ∧ k ≤ n ∧ i = .int .i64 k ∧ o = .int .i64 (pw (n - k))) (fun i _ => (intOf i).toNat)
  case atStart => exact ⟨n, h0, Int.le_refl _, rfl, by rw [Int.sub_self]; rfl⟩
  case round =>
    obtain ⟨k, hk0, hkn, rfl, rfl⟩ := hrel
    have b1 := pw_pos (n - k)
    have b2 := pw_le15 (n - k) (by omega)
    by_cases hlt : 0 < k
    · go_wp2
      go_round
      case rel => exact ⟨k - 1, by omega, by omega, by go_num, by rw [show n - (k - 1) = (n - k) + 1 from by omega, pw_succ _ (by omega)]⟩
      case measure => simp [intOf]; omega
    · obtain rfl : k = 0 := by omega
      go_wp2
      go_ret
      exact ⟨rfl, rfl⟩

set_option maxHeartbeats 8000000 in
set_option maxRecDepth 100000 in
theorem walk_FnEvenClosure (a : Option Addr) (zs : List Nat) (cap : Nat) (w : World) (hi : Byts w a zs) (hl : zs.length ≤ maxLen) (hc : zs.length ≤ cap) :
    Calls Try.prog 4 #[.slice a zs.length cap] w fun e w' => e = .returned (.bool true) ∧ Below w.heap.size w w' := by
  obtain ⟨j0, hj0, hy0, hy1, hy2⟩ := info_parts info_int
  by_cases h : 1048576 < zs.length
  · unfold maxLen at hl
    go_enter Try.func4, Try.ntmps4
    go_wp2
    go_ret
    exact ⟨rfl, Below.refl _ _⟩
  · have hl' : zs.length ≤ 1048576 := by omega
    clear h hl
    go_enter Try.func4, Try.ntmps4
    go_wp2_with fail
    refine (drawEvenClosure_any _ _ _ _ hi hl' hc).mono ?_
    rintro e w1 ⟨m, av, ss, cv, rfl, iv, hsl, hcv, hb⟩
    have S0 := SV.new w1 m av ss cv none [] 25 iv (Ints.nil _ _)
    have HB := hide hb
    have hn : ss.length ≤ 1048576 := by omega
    have HCV := hide hcv
    clear hb hi iv hl' hsl hcv
    obtain ⟨⟨_, c0, c1⟩, _⟩ := S0.pair
    obtain ⟨nn, hnn⟩ : ∃ nn, cloN m ss = nn := ⟨_, rfl⟩
    obtain ⟨C, hC⟩ : ∃ C, cloL par m ss = C := ⟨_, rfl⟩
    have hCl : C.length ≤ 1048576 := by rw [← hC]; exact cloL_len par m ss
    have HCN := hide hnn
    have HCL := hide hC
    clear hnn hC
    go_wp2_with fail
    refine (implClo_was _ _ _ _ _ _ _ S0.2.1 hn HCV.out HCN.out HCL.out).mono ?_
    rintro e w2 ⟨vo, rfl, oo, b2⟩
    obtain ⟨oa, oc, rfl, io, _⟩ := oo.form
    have HOC := hide oo.cap
    have bo := bel1 w2 (.cells #[.int .i64 nn, .slice oa C.length oc] 25)
    have S2 := (S0.below b2).below bo
    have bx := Box.new w2 nn oa C.length oc 25
    obtain ⟨g2, hg2⟩ : ∃ g2, g2 = w2.heap.size := ⟨_, rfl⟩
    rw [← hg2] at bx
    have M2 : Hid (MC w1 m av ss cv g2 nn oa C oc g2 nn oa C oc (w2.alloc (.cells #[.int .i64 nn, .slice oa C.length oc] 25))) := ⟨S2.1, S2.2.1, bx, io.below bo, bx, io.below bo, S2.2.2.2⟩
    clear c0 c1 S0 b2 oo io bo S2 bx
    go_upto_region 5 with fail
    rw [← hg2]
    obtain ⟨W, hW⟩ : ∃ W : World, W = w2.alloc (.cells #[.int .i64 nn, .slice oa C.length oc] 25) := ⟨_, rfl⟩
    rw [← hW] at M2 ⊢
    clear hW hg2
    obtain ⟨⟨_, c0, c1⟩, _, ⟨_, d0, d1⟩, _⟩ := M2.out
    have id0 := M2.out.drew.2.1
    by_cases hv : vsB m ss = false
    · have HV := hide hv
      clear hv
      go_region_held3 (fun w' => w'.cell? ⟨w1.heap.size, 0, none⟩ = some (.int .i64 m) ∧ w'.cell? ⟨w1.heap.size, 1, none⟩ = some (.slice av ss.length cv) ∧ w'.cell? ⟨g2, 0, none⟩ = some (.int .i64 nn) ∧ w'.cell? ⟨g2, 1, none⟩ = some (.slice oa C.length oc))
        (first | go_keep | exact HK3.out | exact HK2.out | exact HK1.out)
        (first
          | (go_at_call 22; (with_reducible refine (specClo_was _ _ _ _ _ _ _ id0 hn HCN.out HCL.out).mono ?_); rintro e w5 ⟨v5, rfl, ow5, b5⟩; obtain ⟨a5, c5, rfl, ii5, _⟩ := ow5.form; have M5 := hide (M2.out.drew.below b5); have io5 := M5.out.2.2.2.1; have HK1 := hide (show w5.cell? ⟨w1.heap.size, 0, none⟩ = some (.int .i64 m) ∧ w5.cell? ⟨w1.heap.size, 1, none⟩ = some (.slice av ss.length cv) ∧ w5.cell? ⟨g2, 0, none⟩ = some (.int .i64 nn) ∧ w5.cell? ⟨g2, 1, none⟩ = some (.slice oa C.length oc) from ⟨M5.out.1.2.1, M5.out.1.2.2, M5.out.2.2.1.2.1, M5.out.2.2.1.2.2⟩))
          | (go_at_call 21; (with_reducible refine (equalSpace_was _ _ _ _ _ _ _ _ _ true io5 ii5 hCl hCl (eqS_refl _ _)).mono ?_); rintro e w6 ⟨rfl, b6⟩; have M6 := hide (M5.out.below b6); have is6 := M6.out.2.1; have HK2 := hide (show w6.cell? ⟨w1.heap.size, 0, none⟩ = some (.int .i64 m) ∧ w6.cell? ⟨w1.heap.size, 1, none⟩ = some (.slice av ss.length cv) ∧ w6.cell? ⟨g2, 0, none⟩ = some (.int .i64 nn) ∧ w6.cell? ⟨g2, 1, none⟩ = some (.slice oa C.length oc) from ⟨M6.out.1.2.1, M6.out.1.2.2, M6.out.2.2.1.2.1, M6.out.2.2.1.2.2⟩))
          | (go_at_call 23; (with_reducible refine (implValid_wasC _ _ _ _ _ false is6 hn HV.out).mono ?_); rintro e w7 ⟨rfl, b7⟩; have M7 := hide (M6.out.below b7); have HK3 := hide (show w7.cell? ⟨w1.heap.size, 0, none⟩ = some (.int .i64 m) ∧ w7.cell? ⟨w1.heap.size, 1, none⟩ = some (.slice av ss.length cv) ∧ w7.cell? ⟨g2, 0, none⟩ = some (.int .i64 nn) ∧ w7.cell? ⟨g2, 1, none⟩ = some (.slice oa C.length oc) from ⟨M7.out.1.2.1, M7.out.1.2.2, M7.out.2.2.1.2.1, M7.out.2.2.1.2.2⟩)))
      
      clear c0 c1 d0 d1
      obtain ⟨⟨_, c0, c1⟩, _, ⟨_, d0, d1⟩, _⟩ := M7.out
      have id0 := M7.out.drew.2.1
      have HS7 := M7
      clear M5 M6 M7 HK1 HK2 HK3 io5 ii5 is6
      go_upto_region 6 with fail
      go_region_held3 (fun w' => w'.cell? ⟨w1.heap.size, 0, none⟩ = some (.int .i64 m) ∧ w'.cell? ⟨w1.heap.size, 1, none⟩ = some (.slice av ss.length cv) ∧ w'.cell? ⟨g2, 0, none⟩ = some (.int .i64 nn) ∧ w'.cell? ⟨g2, 1, none⟩ = some (.slice oa C.length oc))
        (first | go_keep | exact HK2.out | exact HK1.out)
        (first
          | (go_at_call 22; (with_reducible refine (specClo_was _ _ _ _ _ _ _ id0 hn HCN.out HCL.out).mono ?_); rintro e w9 ⟨v9, rfl, ow9, b9⟩; obtain ⟨a9, c9, rfl, ii9, _⟩ := ow9.form; have M9 := hide (HS7.out.drew.below b9); have io9 := M9.out.2.2.2.1; have HK1 := hide (show w9.cell? ⟨w1.heap.size, 0, none⟩ = some (.int .i64 m) ∧ w9.cell? ⟨w1.heap.size, 1, none⟩ = some (.slice av ss.length cv) ∧ w9.cell? ⟨g2, 0, none⟩ = some (.int .i64 nn) ∧ w9.cell? ⟨g2, 1, none⟩ = some (.slice oa C.length oc) from ⟨M9.out.1.2.1, M9.out.1.2.2, M9.out.2.2.1.2.1, M9.out.2.2.1.2.2⟩))
          | (go_at_call 21; (with_reducible refine (equalSpace_was _ _ _ _ _ _ _ _ _ true io9 ii9 hCl hCl (eqS_refl _ _)).mono ?_); rintro e w10 ⟨rfl, b10⟩; have M10 := hide (M9.out.below b10); have HK2 := hide (show w10.cell? ⟨w1.heap.size, 0, none⟩ = some (.int .i64 m) ∧ w10.cell? ⟨w1.heap.size, 1, none⟩ = some (.slice av ss.length cv) ∧ w10.cell? ⟨g2, 0, none⟩ = some (.int .i64 nn) ∧ w10.cell? ⟨g2, 1, none⟩ = some (.slice oa C.length oc) from ⟨M10.out.1.2.1, M10.out.1.2.2, M10.out.2.2.1.2.1, M10.out.2.2.1.2.2⟩)))
      go_wp2
      go_ret
      exact ⟨rfl, bnext HB.out M10.out.2.2.2.2.2.2⟩
    · have hv : vsB m ss = true := by simpa using hv
      have HV := hide hv
      have hV := valid_of hv
      have hN4 := hV.1
      obtain ⟨N, rfl⟩ : ∃ N : Nat, m = (N : Int) := ⟨m.toNat, by omega⟩
      obtain rfl : nn = (N : Int) := HCN.out.symm.trans (cloN_yes hv)
      have hCT : C = cloT par ss := HCL.out.symm.trans (cloL_yes hv)
      have HV' := hide hV
      have HIS : Hid (closedB par (N : Int) C = true) := by unfold Hid; rw [hCT]; exact clo_closed join_par (parlt N) hV
      have HAM : Hid (∀ x ∈ ss, x ∈ C) := fun x hx => by
        have h1 := valid_lt hV hx
        rw [hCT, ← Int.toNat_of_nonneg h1.1]
        exact clo_mem hV (by rw [Int.toNat_of_nonneg h1.1]; exact hx)
      have HSE : Hid (eqS (N : Int) (N : Int) C ss = closedB par (N : Int) ss) := by
        unfold Hid eqS eqB
        rw [← clo_self join_par (parlt N) hV, hCT]
        simp
      have hs16 := valid_16 hV
      have hpos := hV.2.1
      have HLE : Hid ((C.length : Int) ≤ pw ((ss.length : Int) - 1)) := by unfold Hid; rw [hCT]; exact even_len hV
      clear hv hV hN4 hCT
      go_region_held3 (fun w' => w'.cell? ⟨w1.heap.size, 0, none⟩ = some (.int .i64 (N : Int)) ∧ w'.cell? ⟨w1.heap.size, 1, none⟩ = some (.slice av ss.length cv) ∧ w'.cell? ⟨g2, 0, none⟩ = some (.int .i64 (N : Int)) ∧ w'.cell? ⟨g2, 1, none⟩ = some (.slice oa C.length oc))
        (first | go_keep | exact HK3.out | exact HK2.out | exact HK1.out)
        (first
          | (go_at_call 22; (with_reducible refine (specClo_was _ _ _ _ _ _ _ id0 hn HCN.out HCL.out).mono ?_); rintro e w5 ⟨v5, rfl, ow5, b5⟩; obtain ⟨a5, c5, rfl, ii5, _⟩ := ow5.form; have M5 := hide (M2.out.drew.below b5); have io5 := M5.out.2.2.2.1; have HK1 := hide (show w5.cell? ⟨w1.heap.size, 0, none⟩ = some (.int .i64 (N : Int)) ∧ w5.cell? ⟨w1.heap.size, 1, none⟩ = some (.slice av ss.length cv) ∧ w5.cell? ⟨g2, 0, none⟩ = some (.int .i64 (N : Int)) ∧ w5.cell? ⟨g2, 1, none⟩ = some (.slice oa C.length oc) from ⟨M5.out.1.2.1, M5.out.1.2.2, M5.out.2.2.1.2.1, M5.out.2.2.1.2.2⟩))
          | (go_at_call 21; (with_reducible refine (equalSpace_was _ _ _ _ _ _ _ _ _ true io5 ii5 hCl hCl (eqS_refl _ _)).mono ?_); rintro e w6 ⟨rfl, b6⟩; have M6 := hide (M5.out.below b6); have is6 := M6.out.2.1; have HK2 := hide (show w6.cell? ⟨w1.heap.size, 0, none⟩ = some (.int .i64 (N : Int)) ∧ w6.cell? ⟨w1.heap.size, 1, none⟩ = some (.slice av ss.length cv) ∧ w6.cell? ⟨g2, 0, none⟩ = some (.int .i64 (N : Int)) ∧ w6.cell? ⟨g2, 1, none⟩ = some (.slice oa C.length oc) from ⟨M6.out.1.2.1, M6.out.1.2.2, M6.out.2.2.1.2.1, M6.out.2.2.1.2.2⟩))
          | (go_at_call 23; (with_reducible refine (implValid_wasC _ _ _ _ _ true is6 hn HV.out).mono ?_); rintro e w7 ⟨rfl, b7⟩; have M7 := hide (M6.out.below b7); have HK3 := hide (show w7.cell? ⟨w1.heap.size, 0, none⟩ = some (.int .i64 (N : Int)) ∧ w7.cell? ⟨w1.heap.size, 1, none⟩ = some (.slice av ss.length cv) ∧ w7.cell? ⟨g2, 0, none⟩ = some (.int .i64 (N : Int)) ∧ w7.cell? ⟨g2, 1, none⟩ = some (.slice oa C.length oc) from ⟨M7.out.1.2.1, M7.out.1.2.2, M7.out.2.2.1.2.1, M7.out.2.2.1.2.2⟩)))
      
      clear c0 c1 d0 d1
      obtain ⟨⟨_, c0, c1⟩, _, ⟨_, d0, d1⟩, _⟩ := M7.out
      have HS7 := M7
      clear M5 M6 M7 HK1 HK2 HK3 io5 ii5 is6 id0
      obtain ⟨r, hr⟩ : ∃ r, closedB par (N : Int) ss = r := ⟨_, rfl⟩
      have HR := hide hr
      have HRS : Hid (eqS (N : Int) (N : Int) C ss = r) := by unfold Hid; rw [HSE.out]; exact hr
      have hrr : (r == r) = true := by simp
      have hle : decide ((C.length : Int) ≤ pw ((ss.length : Int) - 1)) = true := decide_eq_true HLE.out
      have hsub : IntKind.i64.wrap ((ss.length : Int) - 1) = (ss.length : Int) - 1 := IntWalk.i64_in _ (by omega)
      have id1 := HS7.out.drew.2.2.2.1
      have M7 := HS7
      clear hr
      go_upto_region 7 with fail
      go_region_held3 (fun w' => w'.cell? ⟨w1.heap.size, 0, none⟩ = some (.int .i64 (N : Int)) ∧ w'.cell? ⟨w1.heap.size, 1, none⟩ = some (.slice av ss.length cv) ∧ w'.cell? ⟨g2, 0, none⟩ = some (.int .i64 (N : Int)) ∧ w'.cell? ⟨g2, 1, none⟩ = some (.slice oa C.length oc))
        (first | go_keep | exact HK4.out | exact HK3.out | exact HK2.out | exact HK1.out)
        (first
          | (go_at_call 24; (with_reducible refine (implIs_was _ _ _ _ _ true id1 hCl HOC.out HIS.out).mono ?_); rintro e w11 ⟨rfl, b11⟩; have M11 := hide (M7.out.drew.below b11); have is11 := M11.out.2.1; have io11 := M11.out.2.2.2.1; have HK1 := hide (show w11.cell? ⟨w1.heap.size, 0, none⟩ = some (.int .i64 (N : Int)) ∧ w11.cell? ⟨w1.heap.size, 1, none⟩ = some (.slice av ss.length cv) ∧ w11.cell? ⟨g2, 0, none⟩ = some (.int .i64 (N : Int)) ∧ w11.cell? ⟨g2, 1, none⟩ = some (.slice oa C.length oc) from ⟨M11.out.1.2.1, M11.out.1.2.2, M11.out.2.2.1.2.1, M11.out.2.2.1.2.2⟩))
          | (go_at_call 25; (with_reducible refine (among_yes _ _ _ _ _ _ _ is11 io11 hn hCl HAM.out).mono ?_); rintro e w12 ⟨rfl, b12⟩; have M12 := hide (M11.out.below b12); have is12 := M12.out.2.1; have io12 := M12.out.2.2.2.1; have HK2 := hide (show w12.cell? ⟨w1.heap.size, 0, none⟩ = some (.int .i64 (N : Int)) ∧ w12.cell? ⟨w1.heap.size, 1, none⟩ = some (.slice av ss.length cv) ∧ w12.cell? ⟨g2, 0, none⟩ = some (.int .i64 (N : Int)) ∧ w12.cell? ⟨g2, 1, none⟩ = some (.slice oa C.length oc) from ⟨M12.out.1.2.1, M12.out.1.2.2, M12.out.2.2.1.2.1, M12.out.2.2.1.2.2⟩))
          | (go_at_call 21; (with_reducible refine (equalSpace_was _ _ _ _ _ _ _ _ _ r io12 is12 hCl hn HRS.out).mono ?_); rintro e w13 ⟨rfl, b13⟩; have M13 := hide (M12.out.below b13); have is13 := M13.out.2.1; have io13 := M13.out.2.2.2.1; have HK3 := hide (show w13.cell? ⟨w1.heap.size, 0, none⟩ = some (.int .i64 (N : Int)) ∧ w13.cell? ⟨w1.heap.size, 1, none⟩ = some (.slice av ss.length cv) ∧ w13.cell? ⟨g2, 0, none⟩ = some (.int .i64 (N : Int)) ∧ w13.cell? ⟨g2, 1, none⟩ = some (.slice oa C.length oc) from ⟨M13.out.1.2.1, M13.out.1.2.2, M13.out.2.2.1.2.1, M13.out.2.2.1.2.2⟩))
          | (go_at_call 24; (with_reducible refine (implIs_was _ _ _ _ _ r is13 hn HCV.out HR.out).mono ?_); rintro e w14 ⟨rfl, b14⟩; have M14 := hide (M13.out.below b14); have is14 := M14.out.2.1; have io14 := M14.out.2.2.2.1; have HK4 := hide (show w14.cell? ⟨w1.heap.size, 0, none⟩ = some (.int .i64 (N : Int)) ∧ w14.cell? ⟨w1.heap.size, 1, none⟩ = some (.slice av ss.length cv) ∧ w14.cell? ⟨g2, 0, none⟩ = some (.int .i64 (N : Int)) ∧ w14.cell? ⟨g2, 1, none⟩ = some (.slice oa C.length oc) from ⟨M14.out.1.2.1, M14.out.1.2.2, M14.out.2.2.1.2.1, M14.out.2.2.1.2.2⟩))
          | (go_at_call 26; refine (lawPower15_any _ _ (by omega) (by omega)).mono ?_; rintro e w' ⟨rfl, rfl⟩))
      go_wp2
      go_ret
      exact ⟨rfl, bnext HB.out M14.out.2.2.2.2.2.2⟩

end Go.Proofs.Ytklfpbidbiippaa
