/- Leads: following them, in both programs; the places of a part's answers. -/
import Derived.Test.YtklgganapphioaaLdB
namespace Go.Proofs.Ytklgganapphioaa
open Go.RowKit Go.Joins

/-- a list of leads in a block of its own, all else as in w2 -/
def LDg (w2 : World) (base g c K : Nat) (r : List Nat) (wr : World) : Prop :=
  wr.ownsRow base 3 1 (.slice (some ⟨g, 0, none⟩) K c) K ((ci r).map (Value.int .i64)) ∧ w2.grownBy wr (some g) ∧ RB K r
theorem LDg.store {w2 wr : World} {base g c K f y : Nat} {r : List Nat} (h : LDg w2 base g c K r wr) (hy : y < 256) : LDg w2 base g c K (r.set f y) (wr.setCell ⟨g, f, none⟩ (.int .i64 (y : Int))) := by
  refine ⟨?_, gtrans h.2.1 (h.1.stored f _).2, h.2.2.set hy⟩
  rw [ci_set, List.map_set]
  exact (h.1.stored f _).1
theorem LDg.drew {w2 wr : World} {base g c K : Nat} {r : List Nat} (h : LDg w2 base g c K r wr) : LDg w2 base g c K r wr.drew := ⟨h.1, ⟨h.2.1.os, h.2.1.tape, h.2.1.output, h.2.1.size, h.2.1.block⟩, h.2.2⟩
theorem LDg.at {w2 wr : World} {base g c K f : Nat} {r : List Nat} (h : LDg w2 base g c K r wr) (hf : f < K) : wr.cell? ⟨g, f, none⟩ = some (.int .i64 (r.getD f 0 : Nat)) ∧ wr.frozen? ⟨g, f, none⟩ = false := by
  have h1 := h.1.cellAt f (by omega)
  have hl : f < r.length := by rw [h.2.2.1]; exact hf
  have e : ((ci r).map (Value.int .i64))[f]? = some (.int .i64 (r.getD f 0 : Nat)) := by
    unfold ci
    rw [List.map_map, List.getElem?_map, List.getElem?_eq_getElem hl, List.getD_eq_getElem?_getD, List.getElem?_eq_getElem hl]
    rfl
  rw [e] at h1
  exact ⟨h1, h.1.frozenAt f⟩
theorem LDg.keep {w2 wr : World} {base g c K : Nat} {r : List Nat} (h : LDg w2 base g c K r wr) {a : Addr} {v : Value} (hc : w2.cell? a = some v) (hne : a.block ≠ g) : wr.cell? a = some v :=
  (gcell h.2.1 (a := a) (World.block_lt_of_cell? _ _ hc) (by simpa using hne)).trans hc
theorem LDg.below {w2 wr wx : World} {base g c K : Nat} {r : List Nat} (h : LDg w2 base g c K r wr) (hb : Below wr.heap.size wr wx) : LDg w2 base g c K r wx := by
  have hk : ∀ v, wr.ownsRow base 3 1 v K ((ci r).map (Value.int .i64)) → wx.ownsRow base 3 1 v K ((ci r).map (Value.int .i64)) := fun v h => World.ownsRow.kept (row := none) h ⟨hb.os, hb.tape, hb.output, hb.size, fun k hk _ => hb.block k hk⟩ (by rcases v.ownBlock with _ | g <;> simp)
  exact ⟨hk _ h.1, gtrans h.2.1 ((grown_of hb).but _), h.2.2⟩
theorem LDg.anchor {w2 wr : World} {base g c K : Nat} {r : List Nat} (h : LDg w2 base g c K r wr) : LDg wr base g c K r wr := ⟨h.1, World.grownBy.refl _ _, h.2.2⟩
theorem LDg.to {w2 wr : World} {base g c K : Nat} {r r' : List Nat} (h : LDg w2 base g c K r wr) (e : r' = r) : LDg w2 base g c K r' wr := by
  subst e
  exact h
theorem clS_yes {r : List Nat} {k i : Nat} (h : bitN (r.getD i 0) k = 1) : clS r k i = r.set i (r.getD i 0 ||| r.getD k 0) := by unfold clS; rw [if_pos h]
theorem clS_no {r : List Nat} {k i : Nat} (h : bitN (r.getD i 0) k = 0) : clS r k i = r := by unfold clS; rw [if_neg (by rw [h]; decide)]
theorem ints_cells {w : World} {b off : Nat} {zs : List Int} (h : ∀ k, k < zs.length → w.cell? ⟨b, off + k, none⟩ = some (.int .i64 (zs.getD k 0))) : ∀ (j : Nat) (u : Value), (zs.map (Value.int .i64))[j]? = some u → w.cell? ((⟨b, off, none⟩ : Addr).add j) = some u := fun j u hu => by
  rw [List.getElem?_map] at hu
  rcases hz : zs[j]? with _ | z
  · rw [hz] at hu
    simp at hu
  · rw [hz] at hu
    have hj : j < zs.length := by
      rcases Nat.lt_or_ge j zs.length with h1 | h1
      · exact h1
      · rw [List.getElem?_eq_none h1] at hz
        cases hz
    have h1 := h j hj
    rw [List.getD_eq_getElem?_getD, hz] at h1
    cases hu
    rw [Addr.add_lit]
    exact h1

set_option maxHeartbeats 4000000 in
set_option maxRecDepth 100000 in
theorem closure_any (K : Nat) (a : Option Addr) (cap : Nat) (r : List Nat) (w : World) (hi : Ints w a (ci r)) (hr : RB K r) (hK : 1 ≤ K ∧ K ≤ 8) :
    Calls Try.prog 72 #[.slice a K cap] w (Gives (ci (clK K K r)) w) := by
  obtain ⟨i0, hi0, hz0, hz1, hz2⟩ := info_parts info_int
  have hlen : (ci r).length = K := by rw [ci_len]; exact hr.1
  obtain ⟨b, off, rfl, hlt, hc⟩ := hi (by omega)
  have HC := hide (ints_cells hc)
  have HLEN := hide hlen
  have HR := hide hr
  have HB := hide hlt
  clear hi hc hlen hr
  go_enter Try.func72, Try.ntmps72
  go_wp2_with ((at_builtin; refine wpList_append_own _ rfl _ _ 22 rfl w.heap.size 3 i0 (.int .i64 0) 1 8 Try.underlying22 hi0 hz0 hz1 hz2 rfl (by decide) _ 0 [] rfl (World.ownsRow_lit w #[] 0 (Nat.le_refl _) (by simp) rfl) ⟨b, off, none⟩ K cap ((ci r).map (Value.int .i64)) rfl ?d1 ?c1 ?c2 ?c3 ?c4 ?c5 ?_))
  case d1 => rw [List.length_map, HLEN.out]; omega
  case c1 => exact fun j u hu => ((bel1 w (.cells #[] 3)).cell (p := (⟨b, off, none⟩ : Addr).add j) (by rw [Addr.add_lit]; exact HB.out)).trans (HC.out j u hu)
  case c2 => intro u hu; rcases List.mem_map.1 hu with ⟨z, _, rfl⟩; rfl
  case c3 => unfold maxLen; omega
  case c4 => omega
  case c5 => simp
  intro v w1 hown hgrow _
  try rw [Nat.zero_add] at hown
  try rw [List.nil_append] at hown
  obtain ⟨g, c, rfl, hgb, hgl⟩ := World.ownsRow.form hown (by omega)
  have D1 := hide (show LDg w1 w.heap.size g c K r w1 from ⟨hown, World.grownBy.refl _ _, HR.out⟩)
  have B1 := hide (((bel1 w (.cells #[] 3))).grown hgrow (by simp) (fun k hk => by cases hk; exact Nat.le_refl _))
  clear hown hgrow hlt hgl
  go_wp2_with fail
  go_loopw [4] (fun i wr => ∃ kk : Nat, kk ≤ K ∧ i = .int .i64 kk ∧ LDg w1 w.heap.size g c K (clK K kk r) wr) (fun i _ => K - (intOf i).toNat)
  case atStart => exact ⟨0, Nat.zero_le _, rfl, D1.out⟩
  case round =>
    clear D1
    obtain ⟨k, hk, rfl, hd⟩ := hrel
    by_cases hkt : k < K
    · have HS := hide (clK_succ K k r)
      obtain ⟨r0, hr0⟩ : ∃ r0, r0 = clK K k r := ⟨_, rfl⟩
      rw [← hr0] at hd HS
      have HD := hide hd
      clear hr0 hd
      go_wp2_with fail
      go_loopw [5] (fun i wr => ∃ ii : Nat, ii ≤ K ∧ i = .int .i64 ii ∧ LDg w1 w.heap.size g c K (clI k ii r0) wr) (fun i _ => K - (intOf i).toNat)
      case atStart => exact ⟨0, Nat.zero_le _, rfl, HD.out⟩
      case round =>
        clear HD
        obtain ⟨i, hi, rfl, hd⟩ := hrel
        by_cases hit : i < K
        · have HY := hide (clI_succ k i r0)
          obtain ⟨u, hu⟩ : ∃ u, u = clI k i r0 := ⟨_, rfl⟩
          rw [← hu] at hd HY
          obtain ⟨x1, x2⟩ := hd.at hit
          obtain ⟨y1, _⟩ := hd.at hkt
          have l1 := hd.2.2.at i
          have l2 := hd.2.2.at k
          have HD := hide hd
          clear hd hu
          obtain ⟨bv, hbv⟩ : ∃ bv, bitN (u.getD i 0) k = bv := ⟨_, rfl⟩
          have lbv := bitN_le (u.getD i 0) k
          have HBV := hide hbv
          rw [hbv] at lbv
          clear hbv
          obtain ⟨ui, hui⟩ : ∃ ui, u.getD i 0 = ui := ⟨_, rfl⟩
          obtain ⟨uk, huk⟩ : ∃ uk, u.getD k 0 = uk := ⟨_, rfl⟩
          have HUI := hide hui
          have HUK := hide huk
          rw [hui] at x1 l1 HBV
          rw [huk] at y1 l2
          clear hui huk
          have hor := orL ui uk (by omega) (by omega)
          rcases (show bv = 0 ∨ bv = 1 from by omega) with rfl | rfl
          · go_wp2_with (go_at_call 80; refine (bit8_was ui k 0 _ (by omega) (by omega) HBV.out).mono ?_; rintro e w' ⟨rfl, rfl⟩)
            go_roundw
            case rel => exact ⟨i + 1, by omega, by go_num, by rw [HY.out, clS_no (by rw [HUI.out]; exact HBV.out)]; exact HD.out⟩
            case measure => simp only [intOf]; omega
          · go_wp2_with (go_at_call 80; refine (bit8_was ui k 1 _ (by omega) (by omega) HBV.out).mono ?_; rintro e w' ⟨rfl, rfl⟩)
            go_region
            all_goals go_wp2
            all_goals
              go_roundw
              case rel => exact ⟨i + 1, by omega, by go_num, by rw [HY.out, clS_yes (by rw [HUI.out]; exact HBV.out), HUI.out, HUK.out]; exact (HD.out.drew).store (or_256 l1 l2)⟩
              case measure => simp only [intOf]; omega
        · obtain rfl : i = K := by omega
          go_wp2_with fail
          go_roundw
          case rel => exact ⟨k + 1, by omega, by go_num, by rw [HS.out]; exact hd⟩
          case measure => simp only [intOf]; omega
    · obtain rfl : k = K := by omega
      go_wp2_with fail
      go_ret
      refine ⟨_, rfl, ?_, ?_⟩
      · have h1 := hd.1
        have h2 := hd.2.2.1
        unfold Owns
        rw [ci_len]
        clear hd
        generalize (clK k k r) = z at h1 h2 ⊢
        rw [h2]
        exact h1
      · exact bgrown B1.out hd.2.1 B1.out.size (fun k hk => by cases hk; exact hgb)

set_option maxHeartbeats 4000000 in
set_option maxRecDepth 100000 in
theorem followLeads_any (K base g c : Nat) (r : List Nat) (w : World) (hg : LDg w base g c K r w) (hK : K ≤ 8) :
    Calls Try.prog 76 #[.slice (some ⟨g, 0, none⟩) K c] w fun e w' => e = .returned (.tuple #[]) ∧ LDg w base g c K (clK K K r) w' := by
  have D1 := hide hg
  clear hg
  go_enter Try.func76, Try.ntmps76
  go_wp2_with fail
  go_loopw [6] (fun i wr => ∃ kk : Nat, kk ≤ K ∧ i = .int .i64 kk ∧ LDg w base g c K (clK K kk r) wr) (fun i _ => K - (intOf i).toNat)
  case atStart => exact ⟨0, Nat.zero_le _, rfl, D1.out⟩
  case round =>
    clear D1
    obtain ⟨k, hk, rfl, hd⟩ := hrel
    by_cases hkt : k < K
    · have HS := hide (clK_succ K k r)
      obtain ⟨r0, hr0⟩ : ∃ r0, r0 = clK K k r := ⟨_, rfl⟩
      rw [← hr0] at hd HS
      have HD := hide hd
      clear hr0 hd
      go_wp2_with fail
      go_loopw [11] (fun i wr => ∃ ii : Nat, ii ≤ K ∧ i = .int .i64 ii ∧ LDg w base g c K (clI k ii r0) wr) (fun i _ => K - (intOf i).toNat)
      case atStart => exact ⟨0, Nat.zero_le _, rfl, HD.out⟩
      case round =>
        clear HD
        obtain ⟨i, hi, rfl, hd⟩ := hrel
        by_cases hit : i < K
        · have HY := hide (clI_succ k i r0)
          obtain ⟨u, hu⟩ : ∃ u, u = clI k i r0 := ⟨_, rfl⟩
          rw [← hu] at hd HY
          obtain ⟨x1, x2⟩ := hd.at hit
          obtain ⟨y1, _⟩ := hd.at hkt
          have l1 := hd.2.2.at i
          have l2 := hd.2.2.at k
          have HD := hide hd
          clear hd hu
          obtain ⟨bv, hbv⟩ : ∃ bv, bitN (u.getD i 0) k = bv := ⟨_, rfl⟩
          have lbv := bitN_le (u.getD i 0) k
          have HBV := hide hbv
          rw [hbv] at lbv
          obtain ⟨ui, hui⟩ : ∃ ui, u.getD i 0 = ui := ⟨_, rfl⟩
          obtain ⟨uk, huk⟩ : ∃ uk, u.getD k 0 = uk := ⟨_, rfl⟩
          have HUI := hide hui
          have HUK := hide huk
          rw [hui] at x1 l1 HBV hbv
          rw [huk] at y1 l2
          clear hui huk
          have hor := orL ui uk (by omega) (by omega)
          have hsh := shrL ui k (by omega)
          rw [hbv] at hsh
          clear hbv
          rcases (show bv = 0 ∨ bv = 1 from by omega) with rfl | rfl
          · go_wp2_with fail
            go_roundw
            case rel => exact ⟨i + 1, by omega, by go_num, by rw [HY.out, clS_no (by rw [HUI.out]; exact HBV.out)]; exact HD.out⟩
            case measure => simp only [intOf]; omega
          · go_wp2_with fail
            go_region
            all_goals go_wp2
            all_goals
              go_roundw
              case rel => exact ⟨i + 1, by omega, by go_num, by rw [HY.out, clS_yes (by rw [HUI.out]; exact HBV.out), HUI.out, HUK.out]; exact (HD.out.drew).store (or_256 l1 l2)⟩
              case measure => simp only [intOf]; omega
        · obtain rfl : i = K := by omega
          go_wp2_with fail
          go_roundw
          case rel => exact ⟨k + 1, by omega, by go_num, by rw [HS.out]; exact hd⟩
          case measure => simp only [intOf]; omega
    · obtain rfl : k = K := by omega
      go_wp2_with fail
      go_end0
      exact ⟨rfl, hd⟩

def PLk (k : Nat) (m : Nat × Nat) : List Nat := ((List.range k).filter fun j => bitN m.1 j == 1).map (plc m)
theorem PLk_yes {k : Nat} {m : Nat × Nat} (h : bitN m.1 k = 1) : ci (PLk (k + 1) m) = ci (PLk k m) ++ [((2 * k + bitN m.2 k : Nat) : Int)] := by
  unfold PLk ci
  rw [List.range_succ, List.filter_append, List.map_append, List.map_append]
  simp [h, plc]
theorem PLk_no {k : Nat} {m : Nat × Nat} (h : bitN m.1 k = 0) : PLk (k + 1) m = PLk k m := by
  unfold PLk
  rw [List.range_succ, List.filter_append, List.map_append]
  simp [h]
theorem PLk_len (k : Nat) (m : Nat × Nat) : (PLk k m).length ≤ k := by
  unfold PLk
  rw [List.length_map]
  exact Nat.le_trans (List.length_filter_le _ _) (by simp)
set_option maxHeartbeats 4000000 in
theorem placesOf_any (N mc mb : Nat) (w : World) (hN : N ≤ 4) (hc : mc < 16) (hb : mb < 16) :
    Calls Try.prog 74 #[.int .i64 (N : Int), .agg #[.int .i64 (mc : Int), .int .i64 (mb : Int)]] w (Gives (ci (PL N (mc, mb))) w) := by
  obtain ⟨i0, hi0, hz0, hz1, hz2⟩ := info_parts info_int
  have P0 := PBox.new w (mc : Int) (mb : Int) 52
  have B0 := hide (bel1 w (.cells #[.int .i64 (mc : Int), .int .i64 (mb : Int)] 52))
  have HP := hide P0
  clear P0
  go_enter Try.func74, Try.ntmps74
  go_wp2_with fail
  go_loopw [5, 8] (fun v i wr => ∃ k : Nat, k ≤ N ∧ i = .int .i64 k ∧ Owns wr (w.heap.size + 1) v (ci (PLk k (mc, mb))) ∧ Below w.heap.size w wr ∧ PBox wr w.heap.size mc mb) (fun _ i _ => N - (intOf i).toNat)
  case atStart => exact ⟨0, Nat.zero_le _, rfl, World.ownsRow_nil _ _ _ _, B0.out, HP.out⟩
  case round =>
    clear B0 HP
    obtain ⟨k, hk, rfl, hown, hbl, hpb⟩ := hrel
    have hpb' := hpb
    obtain ⟨_, q0, q1⟩ := hpb'
    have hsz := hbl.size
    have hsz1 := hpb.1
    have HBL := hide hbl
    have HPB := hide hpb
    have hlen := PLk_len k (mc, mb)
    rw [← ci_len] at hlen
    clear hbl hpb
    by_cases hkt : k < N
    · obtain ⟨ec, hec⟩ : ∃ ec, bitN mc k = ec := ⟨_, rfl⟩
      obtain ⟨eb, heb⟩ : ∃ eb, bitN mb k = eb := ⟨_, rfl⟩
      have l1 := bitN_le mc k
      have l2 := bitN_le mb k
      have s1 := shrL mc k (by omega)
      have s2 := shrL mb k (by omega)
      rw [hec] at l1 s1
      rw [heb] at l2 s2
      have HEC := hide hec
      have HEB := hide heb
      clear hec heb
      rcases (show ec = 0 ∨ ec = 1 from by omega) with rfl | rfl
      · go_wp2_with fail
        go_roundw
        case rel => exact ⟨k + 1, by omega, by go_num, by rw [PLk_no (show bitN (mc, mb).1 k = 0 from HEC.out)]; exact hown, HBL.out, HPB.out⟩
        case measure => simp only [intOf]; omega
      · have hown' : wr.ownsRow (w.heap.size + 1) 3 1 _ (ci (PLk k (mc, mb))).length ((ci (PLk k (mc, mb))).map (Value.int .i64)) := hown
        clear hown
        go_wp2_with ((at_builtin; refine wpList_append_own _ rfl _ _ 22 rfl (w.heap.size + 1) 3 i0 (.int .i64 0) 1 8 Try.underlying22 hi0 hz0 hz1 hz2 rfl (by decide) _ _ _ rfl (hown'.alloc _) ⟨wr.heap.size, 0, none⟩ 1 1 [.int .i64 (2 * (k : Int) + (eb : Int))] rfl rfl ?c1 ?c2 ?c3 ?c4 ?c5 ?_))
        case c1 => exact cell_one_new wr _ _
        case c2 => intro u hu; simp at hu; subst hu; rfl
        case c3 => unfold maxLen; omega
        case c4 => omega
        case c5 => simp; omega
        intro v' w2 hown2 hgrow _
        have hpush := hide (Owns.push hown2)
        have hge := fun j hj => (hown'.lt j hj).1
        have hbel : Below w.heap.size w w2 := (HBL.out.alloc HBL.out.size _).grown hgrow (by simp; omega) (fun j hj => by have := hge j hj; omega)
        have hpb2 : PBox w2 w.heap.size mc mb := (HPB.out.below (bel1 _ _)).grown hgrow (fun e => by have := hge _ e.symm; omega)
        clear hown2 hgrow hown'
        go_wp2_with fail
        go_roundw
        case rel => exact ⟨k + 1, by omega, by go_num, by rw [PLk_yes (show bitN (mc, mb).1 k = 1 from HEC.out), show ((2 * k + bitN (mc, mb).2 k : Nat) : Int) = 2 * (k : Int) + (eb : Int) from by rw [show bitN (mc, mb).2 k = eb from HEB.out]; omega]; exact hpush.out, hbel, hpb2⟩
        case measure => simp only [intOf]; omega
    · obtain rfl : k = N := by omega
      go_wp2_with fail
      go_ret
      exact ⟨_, rfl, hown.le (by omega), HBL.out⟩

theorem oppositePlace_was (p q : Nat) (w : World) (hp : p < 16) (h : p ^^^ 1 = q) : Calls Try.prog 75 #[.int .i64 (p : Int)] w fun e w' => e = .returned (.int .i64 (q : Int)) ∧ w = w' := by
  have h1 : bits .xor .i64 (p : Int) 1 = (q : Int) := by
    have h1 := xor_small p 1 (by omega) (by omega)
    rw [h] at h1
    exact h1
  have HX := hide h
  clear h
  go_enter Try.func75, Try.ntmps75
  go_wp2_with fail
  go_ret
  exact ⟨rfl, rfl⟩
end Go.Proofs.Ytklgganapphioaa
