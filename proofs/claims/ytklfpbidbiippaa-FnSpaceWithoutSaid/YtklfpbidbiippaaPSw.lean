/- The law of SpaceWithout answers true at every code: its draw; its walk. -/
import Derived.Test.YtklfpbidbiippaaDrawV
import Derived.Test.YtklfpbidbiippaaSwI
import Derived.Test.YtklfpbidbiippaaLawH
import Derived.Deep.RegionHeld3
import Derived.Deep.QuietTactic
import Derived.BigQuiet
namespace Go.Proofs.Ytklfpbidbiippaa
open Go.RowKit Go.Joins

theorem equalSpace_yes (n : Int) (a b : Option Addr) (ca cb : Nat) (xs : List Int) (w : World) (hx : Ints w a xs) (hy : Ints w b xs) (hn : xs.length ≤ 1048576) :
    Calls Try.prog 21 #[.agg #[.int .i64 n, .slice a xs.length ca], .agg #[.int .i64 n, .slice b xs.length cb]] w fun e w' => e = .returned (.bool true) ∧ Below w.heap.size w w' := by
  have hne : (n == n) = true := by simp
  go_enter Try.func21, Try.ntmps21
  go_wp2_with fail
  refine (equalInts_yes _ _ _ _ _ _ (hx.below (bel2 w _ _)) (hy.below (bel2 w _ _)) hn).mono ?_
  rintro e w1 ⟨rfl, hb⟩
  go_wp2
  go_ret
  exact ⟨rfl, bnext (bel2 w _ _) hb⟩

theorem swK_valid {n : Int} {ps : List (Int × Int)} (h : SwYes n ps) : Valid n (swK ps (2 ^ n.toNat)) := by
  have hp : pw n = ((2 ^ n.toNat : Nat) : Int) := rfl
  have hmem : ∀ z ∈ swK ps (2 ^ n.toNat), 0 ≤ z ∧ z ≤ pw n - 1 := fun z hz => by
    unfold swK at hz
    obtain ⟨u, hu, rfl⟩ := List.mem_map.1 hz
    have := List.mem_range.1 (List.mem_filter.1 hu).1
    omega
  have hpw : (swK ps (2 ^ n.toNat)).Pairwise (· < ·) := by
    unfold swK
    rw [List.pairwise_map]
    exact (List.pairwise_lt_range.filter _).imp (fun h => by omega)
  refine ⟨h.1.1, Nat.pos_of_ne_zero h.2, fun i hi => ⟨?_, fun h0 => ?_⟩⟩
  · rw [getD_lt hi]
    exact hmem _ (List.getElem_mem hi)
  · rw [getD_lt hi, getD_lt (show i - 1 < _ from by omega)]
    exact List.pairwise_iff_getElem.1 hpw (i - 1) i (by omega) hi (by omega)
theorem swK_has {n : Int} {ps : List (Int × Int)} {x : Nat} (hx : x < 2 ^ n.toNat) : hasB (swK ps (2 ^ n.toNat)) (x : Int) = freeB ps (x : Int) := by
  unfold hasB
  rw [Bool.eq_iff_iff, decide_eq_true_iff]
  unfold swK
  rw [List.mem_map]
  constructor
  · rintro ⟨u, hu, e⟩
    obtain rfl : u = x := by omega
    exact (List.mem_filter.1 hu).2
  · intro h
    exact ⟨x, List.mem_filter.2 ⟨List.mem_range.2 hx, h⟩, rfl⟩
theorem sw_in {n : Int} {ps : List (Int × Int)} {x : Nat} (h : SwYes n ps) (hx : x < 2 ^ n.toNat) : inB n (swK ps (2 ^ n.toNat)) (x : Int) = freeB ps (x : Int) := by
  rw [inB_true (vsB_true (swK_valid h)), swK_has hx]
theorem implInSpace_was (n x : Int) (a : Option Addr) (cap : Nat) (zs : List Int) (w : World) (r : Bool) (hi : Ints w a zs) (hn : zs.length ≤ 1048576) (hr : inB n zs x = r) :
    Calls Try.prog 18 #[.agg #[.int .i64 n, .slice a zs.length cap], .int .i64 x] w fun e w' => e = .returned (.bool r) ∧ Below w.heap.size w w' := by
  subst hr
  exact implInSpace_any n x a cap zs w hi hn
theorem implValidSpace_was (n : Int) (a : Option Addr) (cap : Nat) (zs : List Int) (w : World) (r : Bool) (hi : Ints w a zs) (hn : zs.length ≤ 1048576) (hr : vsB n zs = r) :
    Calls Try.prog 23 #[.agg #[.int .i64 n, .slice a zs.length cap]] w fun e w' => e = .returned (.bool r) ∧ Below w.heap.size w w' := by
  subst hr
  exact implValidSpace_any n a cap zs w hi hn

/-- parts under way: the space's block, the parts, the reader -/
def WI (R : Nat) (w : World) (n : Nat) (m : Int) (B : Nat) (v : Value) (ps : List (Int × Int)) (wq : World) : Prop :=
  wq.heap[B]? = some (.cells #[.int .i64 m, .slice none 0 0] 25 (0, 0)) ∧ OwnsP wq (B + 1) v ps ∧ Below w.heap.size w wq ∧ RD wq R n ∧ w.heap.size ≤ R ∧ R < B ∧ ∀ p ∈ ps, -1 ≤ p.2 ∧ p.2 ≤ 16
theorem WI.below {R n B : Nat} {w wq w' : World} {m : Int} {v : Value} {ps : List (Int × Int)} (h : WI R w n m B v ps wq) (hb : Below wq.heap.size wq w') : WI R w n m B v ps w' :=
  ⟨(hb.block _ (lt_of_block h.1)).trans h.1, h.2.1.below hb, bnext h.2.2.1 hb, h.2.2.2.1.below hb, h.2.2.2.2⟩
theorem WI.pick {R n k B : Nat} {w wq w' : World} {m : Int} {v : Value} {ps : List (Int × Int)} (h : WI R w n m B v ps wq) (hg : wq.grownBy w' (some R)) (hr : RD w' R k) : WI R w k m B v ps w' := by
  obtain ⟨h1, h2, h3, _, h5, h6, h7⟩ := h
  exact ⟨(hg.block _ (lt_of_block h1) (by simp; omega)).trans h1, h2.other hg (fun g e => by cases e; omega), bgrown h3 hg h3.size (fun k hk => by cases hk; exact h5), hr, h5, h6, h7⟩
theorem WI.more {R n k B : Nat} {w wq : World} {m : Int} {v : Value} {ps : List (Int × Int)} (h : WI R w n m B v ps wq) (hk : n ≤ k) : WI R w k m B v ps wq :=
  ⟨h.1, h.2.1, h.2.2.1, h.2.2.2.1.more hk, h.2.2.2.2⟩
theorem WI.push {R n B : Nat} {w wq w5 : World} {m c b : Int} {v v' : Value} {ps : List (Int × Int)} {o : Obj} (h : WI R w n m B v ps wq) (hg : (wq.alloc o).grownBy w5 v.ownBlock)
    (ho : w5.ownsRow (B + 1) 80 2 v' (ps.length + 1) (pflat ps ++ [.int .i64 c, .int .i64 b])) (hb : -1 ≤ b ∧ b ≤ 16) : WI R w n m B v' (ps ++ [(c, b)]) w5 := by
  have hp' : wq.ownsRow (B + 1) 80 2 v ps.length (pflat ps) := h.2.1
  have hge : ∀ k, v.ownBlock = some k → B + 1 ≤ k := fun k hk => (World.ownsRow.lt hp' k hk).1
  obtain ⟨h1, h2, h3, h4, h5, h6, h7⟩ := h.below (bel1 wq o)
  have hne : ∀ k, k < B + 1 → some k ≠ v.ownBlock := fun k hk e => by
    have := hge k e.symm
    omega
  refine ⟨(hg.block _ (lt_of_block h1) (hne _ (by omega))).trans h1, OwnsP.push ho, bgrown h3 hg h3.size (fun k hk => by have := hge k hk; omega), h4.grown hg (fun g e => by have := hge g e; omega), h5, h6, fun p hp => ?_⟩
  rcases List.mem_append.1 hp with hp | hp
  · exact h7 p hp
  · rw [List.mem_singleton.1 hp]
    exact hb
/-- What a draw of issues and parts leaves. -/
def DrawSwPost (w : World) (e : Ending) (w' : World) : Prop :=
  ∃ (m : Int) (a : Option Addr) (ps : List (Int × Int)) (cap : Nat), e = .returned (.tuple #[.int .i64 m, .slice a ps.length cap]) ∧ PInts w' a ps ∧ ps.length ≤ 11 ∧ (∀ p ∈ ps, -1 ≤ p.2 ∧ p.2 ≤ 16) ∧ Below w.heap.size w w'
theorem litZ (w : World) (zs : List Int) : Ints (w.alloc (.cells (zs.map (Value.int .i64)).toArray 3)) (some ⟨w.heap.size, 0, none⟩) zs := fun _ =>
  ⟨w.heap.size, 0, rfl, by simp, fun k hk => by
    rw [Nat.zero_add]
    simp [go_sem, hk, List.getD_eq_getElem?_getD]⟩

set_option maxHeartbeats 4000000 in
set_option maxRecDepth 100000 in
theorem drawSpaceWithout_any (a : Option Addr) (cap : Nat) (zs : List Nat) (w : World) (hi : Byts w a zs) (hl : zs.length ≤ 1048576) (hc : zs.length ≤ cap) :
    Calls Try.prog 74 #[.slice a zs.length cap] w (DrawSwPost w) := by
  obtain ⟨j0, hj0, hy0, hy1, hy2⟩ := info_parts info_part
  go_enter Try.func74, Try.ntmps74
  go_wp2_with fail
  refine (newReader_any _ _ _ _ hi hl hc).mono ?_
  rintro e w1 ⟨R, rfl, hR, rd, B1⟩
  have hl7 : Ints (w1.alloc (.cells #[.int .i64 3, .int .i64 4, .int .i64 2, .int .i64 1, .int .i64 3, .int .i64 0, .int .i64 5] 3)) (some ⟨w1.heap.size, 0, none⟩) [3, 4, 2, 1, 3, 0, 5] := litZ w1 [3, 4, 2, 1, 3, 0, 5]
  have r1 := rd.below (bel1 w1 (.cells #[.int .i64 3, .int .i64 4, .int .i64 2, .int .i64 1, .int .i64 3, .int .i64 0, .int .i64 5] 3))
  have hRl := rd.lt
  have B2 := hide (bnext B1 (bel1 w1 (.cells #[.int .i64 3, .int .i64 4, .int .i64 2, .int .i64 1, .int .i64 3, .int .i64 0, .int .i64 5] 3)))
  have HR := hide hR
  have HRL := hide hRl
  clear hR B1 rd hRl hi
  go_wp2_with fail
  refine (one_any R 0 7 _ _ _ r1 (by omega) hl7 (by simp) (by simp) (fun b o s e => by cases e; have := HRL.out; omega)).mono ?_
  rintro e w2 ⟨m, _, rfl, g, rd⟩
  have hR2 : R < w2.heap.size := rd.lt
  have P0 : WI R w (0 + 1) m w2.heap.size (.slice (some ⟨w2.heap.size + 1, 0, none⟩) 0 0) [] ((w2.alloc (.cells #[.int .i64 m, .slice none 0 0] 25)).alloc (.cells #[] 80)) := by
    have he := OwnsP.empty (w2.alloc (.cells #[.int .i64 m, .slice none 0 0] 25)) (base := w2.heap.size + 1) (by simp)
    simp only [World.size_alloc] at he
    have b2 := bel2 w2 (.cells #[.int .i64 m, .slice none 0 0] 25) (.cells #[] 80)
    exact ⟨((bel1 _ _).block _ (by simp)).trans (heap_alloc_new w2 _), he, bnext (bgrown B2.out g B2.out.size (fun k hk => by cases hk; exact HR.out)) b2, rd.below b2, HR.out, hR2, fun p hp => by cases hp⟩
  have hl6 : Ints (((w2.alloc (.cells #[.int .i64 m, .slice none 0 0] 25)).alloc (.cells #[] 80)).alloc (.cells #[.int .i64 2, .int .i64 3, .int .i64 1, .int .i64 4, .int .i64 0, .int .i64 11] 3)) (some ⟨((w2.alloc (.cells #[.int .i64 m, .slice none 0 0] 25)).alloc (.cells #[] 80)).heap.size, 0, none⟩) [2, 3, 1, 4, 0, 11] := litZ _ [2, 3, 1, 4, 0, 11]
  simp only [World.size_alloc] at hl6
  have P1 := hide (P0.below (bel1 _ (.cells #[.int .i64 2, .int .i64 3, .int .i64 1, .int .i64 4, .int .i64 0, .int .i64 11] 3)))
  have r1 := P1.out.2.2.2.1
  have HR2 := hide hR2
  clear P0 g rd hl7 hR2 HRL B2
  go_wp2_with fail
  have ho := one_any R (0 + 1) 6 _ _ _ r1 (by omega) hl6 (by simp) (by simp) (fun b o s e => by cases e; have := HR2.out; omega)
  refine ho.mono ?_
  rintro e w4 ⟨q, hq, rfl, g, rd⟩
  have P2 := P1.out.pick g rd
  have hq' : 0 ≤ q ∧ q ≤ 11 := by
    simp only [List.mem_cons, List.not_mem_nil, or_false] at hq
    omega
  obtain ⟨B, hB⟩ : ∃ B, B = w2.heap.size := ⟨_, rfl⟩
  rw [← hB] at P2 ⊢
  clear ho hq g rd hl6 r1 P1 HR2 hB
  go_wp2_with fail
  go_loopw [6] (fun v wq => ∃ ps : List (Int × Int), (ps.length : Int) ≤ q ∧ WI R w (2 + 4 * ps.length) m B v ps wq) (fun v _ => lackOf 11 v)
  case atStart => exact ⟨[], by simp; omega, P2.more (by simp)⟩
  case round =>
    clear P2
    obtain ⟨ps, hps, hs⟩ := hrel
    have hp11 : ps.length ≤ 11 := by omega
    obtain ⟨va, vc, rfl, hpi⟩ := hs.2.1.form
    have c0 := cell_of_block hs.1 0
    have c1 := cell_of_block hs.1 1
    by_cases hlt : (ps.length : Int) < q
    · have HS := hide hs
      clear hs hpi
      go_wp2_with fail
      refine (partOf_any R _ m _ _ HS.out.2.2.2.1 (by omega)).mono ?_
      rintro e w5 ⟨c, b, rfl, hb, g, rd⟩
      have h5 := HS.out.pick g rd
      have hop := h5.2.1
      have hws : B + 1 ≤ w5.heap.size := lt_of_block h5.1
      have H5 := hide h5
      have HB := hide hb
      clear g rd h5 c0 c1 hb
      go_wp2_with ((at_builtin; refine wpList_append_own _ rfl _ _ 72 rfl (B + 1) 80 j0 (.agg #[.int .i64 0, .int .i64 0]) 2 16 Try.underlying72 hj0 hy0 hy1 hy2 rfl (by decide) _ _ _ rfl (hop.alloc _) ⟨w5.heap.size, 0, none⟩ 1 1 [.int .i64 c, .int .i64 b] rfl rfl (World.news_of_block (cs := #[.int .i64 c, .int .i64 b]) (t := 80) (fr := (0, 0)) (heap_alloc_new w5 _)) (by intro u hu; simp at hu; rcases hu with rfl | rfl <;> rfl) (by unfold maxLen; omega) (by omega) (by first | omega | (simp; omega)) ?_))
      intro v' w6 hown' hgrow _
      have V5 := H5.out.push hgrow hown' HB.out
      obtain ⟨pq, hpq⟩ : ∃ pq, pq = ps ++ [(c, b)] := ⟨_, rfl⟩
      rw [← hpq] at V5
      have hql : pq.length = ps.length + 1 := by rw [hpq, List.length_append]; rfl
      obtain ⟨qa, qc, rfl, _⟩ := V5.2.1.form
      have HL := hide hql
      have HQ := hide V5
      clear hop hown' hgrow V5 hpq hql hws
      go_wp2
      go_roundw
      case rel => exact ⟨pq, by have := HL.out; omega, HQ.out.more (by have := HL.out; omega)⟩
      case measure => simp only [lackOf]; have := HL.out; omega
    · have HS := hide hs
      have HPI := hide hpi
      clear hs hpi
      go_wp2
      refine bodyPost_ret (results_tmp2 rfl _ _ _) rfl ?_
      exact ⟨m, va, ps, vc, rfl, HPI.out, hp11, HS.out.2.2.2.2.2.2, HS.out.2.2.1⟩

set_option maxHeartbeats 8000000 in
set_option maxRecDepth 100000 in
theorem walk_FnSpaceWithout (a : Option Addr) (zs : List Nat) (cap : Nat) (w : World) (hi : Byts w a zs) (hl : zs.length ≤ maxLen) (hc : zs.length ≤ cap) :
    Calls Try.prog 14 #[.slice a zs.length cap] w fun e w' => e = .returned (.bool true) ∧ Below w.heap.size w w' := by
  by_cases h : 1048576 < zs.length
  · unfold maxLen at hl
    go_enter Try.func14, Try.ntmps14
    go_wp2
    go_ret
    exact ⟨rfl, Below.refl _ _⟩
  · have hl' : zs.length ≤ 1048576 := by omega
    clear h hl
    go_enter Try.func14, Try.ntmps14
    go_wp2_with fail
    refine (drawSpaceWithout_any _ _ _ _ hi hl' hc).mono ?_
    rintro e w1 ⟨m, al, ps, cl, rfl, hp, hpl, hpb, hb⟩
    have HP := hide hp
    have HB := hide hb
    have HWF : Hid (∀ p ∈ ps, (Lit.int .i64 p.2).wf = true) := fun p hp => by
      have := hpb p hp
      simp [Lit.wf, IntKind.min, IntKind.max, IntKind.bits, IntKind.signed]
      omega
    have hm : ps.length ≤ 1048576 := by omega
    have hL16 := swL_len m ps
    clear hb hi hp hpb hl'
    go_wp2_with fail
    refine (implSw_any _ _ _ _ _ HP.out hm HWF.out).mono ?_
    rintro e w2 ⟨v2, rfl, ow2, b2⟩
    obtain ⟨a2, k2, rfl, i2, _⟩ := ow2.form
    have HP2 := hide (HP.out.below b2)
    have bx2 := Box.new w2 (swN m ps) a2 (swL m ps).length k2 25
    have i2' := i2.below (bel1 w2 (.cells #[.int .i64 (swN m ps), .slice a2 (swL m ps).length k2] 25))
    have HP3 := hide (HP2.out.below (bel1 w2 (.cells #[.int .i64 (swN m ps), .slice a2 (swL m ps).length k2] 25)))
    have HB3 := hide (bnext (bnext HB.out b2) (bel1 w2 (.cells #[.int .i64 (swN m ps), .slice a2 (swL m ps).length k2] 25)))
    clear ow2 b2 i2 HP HP2 HB
    go_wp2_with fail
    refine (specSw_any _ _ _ _ _ HP3.out hm).mono ?_
    rintro e w3 ⟨v3, rfl, ow3, b3⟩
    obtain ⟨a3, k3, rfl, i3, _⟩ := ow3.form
    have bx3 := Box.new w3 (swN m ps) a3 (swL m ps).length k3 25
    have b31 := bnext b3 (bel1 w3 (.cells #[.int .i64 (swN m ps), .slice a3 (swL m ps).length k3] 25))
    have bx2 := bx2.below b31
    have i2 := i2'.below b31
    have i3 := i3.below (bel1 w3 (.cells #[.int .i64 (swN m ps), .slice a3 (swL m ps).length k3] 25))
    have HP4 := hide (HP3.out.below b31)
    have HB4 := hide (bnext HB3.out b31)
    have HX2 := hide bx2
    have HX3 := hide bx3
    obtain ⟨_, c0, c1⟩ := bx2
    obtain ⟨_, d0, d1⟩ := bx3
    clear ow3 b3 i2' HP3 HB3 b31
    have hle : (swL m ps).length ≤ 1048576 := by omega
    clear hL16
    by_cases hy : SwYes m ps
    · have e1 : swN m ps = m := if_pos hy
      have e2 : swL m ps = swK ps (2 ^ m.toNat) := if_pos hy
      have e3 : swB m ps = true := by simpa [swB] using hy
      have hV := vsB_true (swK_valid hy)
      have hN := hy.1.1
      have hOK := hide hy.1
      have hIN : Hid (∀ x : Nat, x < 2 ^ m.toNat → inB m (swL m ps) (x : Int) = freeB ps (x : Int)) := fun x hx => by rw [e2]; exact sw_in hy hx
      have HV : Hid (vsB m (swL m ps) = true) := by unfold Hid; rw [e2]; exact hV
      obtain ⟨H, hH⟩ : ∃ H, H = swL m ps := ⟨_, rfl⟩
      have HP4 := hide HP4.out
      have HB4 := hide HB4.out
      rw [← hH, e1] at c1 d1 i2 i3 c0 d0 HX2 HX3 HP4 HB4
      rw [← hH] at hIN HV hle
      rw [← hH, e1, e3]
      have hp2 : pw m = ((2 ^ m.toNat : Nat) : Int) := rfl
      obtain ⟨q, hq⟩ : ∃ q, q = 2 ^ m.toNat := ⟨_, rfl⟩
      rw [← hq] at hp2 hIN
      have p2 := pw_le m hN.2
      have hq16 : q ≤ 16 := by omega
      have HP2 := hide hp2
      clear e1 e2 e3 hV hH hy hq hp2 p2
      go_wp2_with fail
      refine (equalSpace_yes _ _ _ _ _ _ _ i2 i3 hle).mono ?_
      rintro e w4 ⟨rfl, b4⟩
      have I2 := hide (i2.below b4)
      have X2 := hide (HX2.out.below b4)
      have HPW := hide (HP4.out.below b4)
      have HBW := hide (bnext HB4.out b4)
      clear c0 c1 d0 d1 i2 i3 b4 HX2 HX3 HP4 HB4
      go_wp2_with fail
      obtain ⟨g, hg⟩ : ∃ g, g = w2.heap.size := ⟨_, rfl⟩
      rw [← hg] at X2 ⊢
      clear hg
      go_loopw [9] (fun i wr => ∃ x : Nat, x ≤ q ∧ i = .int .i64 x ∧ Below w4.heap.size w4 wr) (fun i _ => q - (intOf i).toNat)
      case atStart => exact ⟨0, Nat.zero_le _, rfl, Below.refl _ _⟩
      case round =>
        obtain ⟨x, hx, rfl, BR⟩ := hrel
        have BRH := hide BR
        have il := hide (HPW.out.below BR)
        have bxx := X2.out.below BR
        have XX := hide bxx
        obtain ⟨_, c0, c1⟩ := bxx
        have i2 := I2.out.below BR
        clear BR
        obtain ⟨wo, hwo⟩ : ∃ wo : World, wo = wr := ⟨_, rfl⟩
        subst hwo
        by_cases hlt : x < q
        · clear c0 c1
          go_wp2_with (go_at_call 26; refine (lawPower_any _ _ (by omega) (by omega)).mono ?_; rintro e w' ⟨rfl, rfl⟩; rw [HP2.out])
          go_loopw [10, 11] (fun b i wq => ∃ (j : Nat) (B : Bool), j ≤ ps.length ∧ i = .int .i64 j ∧ b = .bool B ∧ B = !freeB (ps.take j) x ∧ Below wo.heap.size wo wq) (fun _ i _ => ps.length - (intOf i).toNat)
          case atStart => exact ⟨0, false, Nat.zero_le _, rfl, rfl, rfl, Below.refl _ _⟩
          case round =>
            obtain ⟨j, B, hj, rfl, rfl, hB, BI⟩ := hrel
            have HBB := hide hB
            clear hB
            by_cases hlj : j < ps.length
            · have hft := hide (freeB_take (x := (x : Int)) hlj)
              obtain ⟨b, off, rfl, hbl, hcc⟩ := (il.out.below BI) (by omega)
              obtain ⟨h1, h2⟩ := hcc j hlj
              rw [pgetD_lt hlj] at h1 h2
              have hpt := hOK.out.2.2 j hlj
              rw [pgetD_lt hlj] at hpt
              have hp16 := pt_16 hN.2 hpt
              have hand := hp_and (x := (x : Int)) ⟨by omega, by omega⟩ hp16.1 hp16.2.1
              clear hcc hpt hp16
              cases B with
              | true =>
                have HF : Hid (freeB (ps.take j) x = false) := by have h := HBB.out; show freeB (ps.take j) x = false; revert h; cases freeB (ps.take j) x <;> simp
                go_wp2
                go_quiet (fail)
                go_wp2
                go_roundw
                case rel => exact ⟨j + 1, true, by omega, by go_num, rfl, by rw [hft.out, HF.out]; rfl, bnext BI (belN _ _)⟩
                case measure => simp only [intOf]; omega
              | false =>
                have HF : Hid (freeB (ps.take j) x = true) := by have h := HBB.out; show freeB (ps.take j) x = true; revert h; cases freeB (ps.take j) x <;> simp
                obtain ⟨r, hr⟩ : ∃ r, hpB x ps[j].1 ps[j].2 = r := ⟨_, rfl⟩
                rw [hr] at hand
                have HE := hide hr
                clear hr
                go_wp2
                go_quiet (fail)
                go_wp2
                go_roundw
                case rel => exact ⟨j + 1, r, by omega, by go_num, rfl, by rw [hft.out, HF.out, HE.out]; simp, bnext BI (belN _ _)⟩
                case measure => simp only [intOf]; omega
            · obtain rfl : j = ps.length := by omega
              have hBf : Hid (freeB ps (x : Int) = !B) := by
                have := HBB.out
                rw [List.take_length] at this
                unfold Hid
                rw [this]
                simp
              have i2 := i2.below BI
              obtain ⟨_, c0, c1⟩ := XX.out.below BI
              have hr := hide ((hIN.out x hlt).trans hBf.out)
              have hne : ((!B) == B) = false := by cases B <;> rfl
              have BIH := hide BI
              clear BI
              go_wp2_with fail
              refine (implInSpace_was _ _ _ _ _ _ _ i2 hle hr.out).mono ?_
              rintro e w6 ⟨rfl, b6⟩
              clear i2 c0 c1
              go_wp2
              go_roundw
              case rel => exact ⟨x + 1, by omega, by go_num, bnext (bnext BRH.out BIH.out) b6⟩
              case measure => simp only [intOf]; omega
        · obtain rfl : x = q := by omega
          go_wp2_with (go_at_call 26; refine (lawPower_any _ _ (by omega) (by omega)).mono ?_; rintro e w' ⟨rfl, rfl⟩; rw [HP2.out])
          refine (implValidSpace_was _ _ _ _ _ _ i2 hle HV.out).mono ?_
          rintro e w6 ⟨rfl, b6⟩
          go_wp2
          go_ret
          exact ⟨rfl, bnext (bnext HBW.out BRH.out) b6⟩
    · have e1 : swN m ps = 0 := if_neg hy
      have e2 : swL m ps = [] := if_neg hy
      have e3 : swB m ps = false := by simpa [swB] using hy
      rw [e1, e2] at c1 d1 i2 i3 c0 d0 HX2 HX3 HP4 HB4
      rw [e1, e2, e3]
      obtain ⟨L, hL⟩ : ∃ L : List Int, L = [] := ⟨_, rfl⟩
      have hLn : L.length ≤ 1048576 := by rw [hL]; simp
      rw [← hL] at c1 d1 i2 i3 c0 d0 HX2 HX3 HP4 HB4 ⊢
      clear hL
      clear e1 e2 e3 hy
      go_wp2_with fail
      refine (equalSpace_yes _ _ _ _ _ _ _ i2 i3 hLn).mono ?_
      rintro e w4 ⟨rfl, b4⟩
      have i24 := i2.below b4
      have i34 := i3.below b4
      obtain ⟨_, c0, c1⟩ := HX2.out.below b4
      obtain ⟨_, d0, d1⟩ := HX3.out.below b4
      have HB5 := hide (bnext HB4.out b4)
      clear b4 i2 i3
      go_wp2_with fail
      refine (equalSpace_yes _ _ _ _ _ _ _ i24 i34 hLn).mono ?_
      rintro e w5 ⟨rfl, b5⟩
      go_wp2
      go_ret
      exact ⟨rfl, bnext HB5.out b5⟩
end Go.Proofs.Ytklfpbidbiippaa
