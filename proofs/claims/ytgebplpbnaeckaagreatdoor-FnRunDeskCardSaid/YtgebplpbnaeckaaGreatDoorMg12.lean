/- Texts of this seat one behind the other: LdB, LdC, LdI, BkI. Conditions: none. -/
import Derived.Test.YtgebplpbnaeckaaGreatDoorMg08
import Derived.Deep.RegionWith
import Derived.BigQuiet

/- LdB: Leads: small steps of both programs. -/
namespace Go.Proofs.YtgebplpbnaeckaaGreatDoor
open Go.RowKit Go.Joins

theorem LDs.below {w2 wr wx : World} {B0 K : Nat} {r : List Nat} (h : LDs w2 B0 K r wr) (hb : Below wr.heap.size wr wx) : LDs w2 B0 K r wx := by
  have hk : ∀ v, wr.ownsRow B0 3 1 v K ((ci r).map (Value.int .i64)) → wx.ownsRow B0 3 1 v K ((ci r).map (Value.int .i64)) := fun v h => World.ownsRow.kept (row := none) h ⟨hb.os, hb.tape, hb.output, hb.size, fun k hk _ => hb.block k hk⟩ (by rcases v.ownBlock with _ | g <;> simp)
  exact ⟨hk _ h.1, gtrans h.2.1 ((grown_of hb).but _), h.2.2⟩
theorem orL (a b : Nat) (ha : a < 65536) (hb : b < 65536) : bits .or .i64 (a : Int) (b : Int) = ((a ||| b : Nat) : Int) := by
  have hx : a ||| b < 2 ^ 16 := Nat.or_lt_two_pow (by omega) (by omega)
  show IntKind.i64.wrap ((BitVec.ofInt 64 (a : Int) ||| BitVec.ofInt 64 (b : Int)).toNat : Int) = _
  rw [BitVec.toNat_or, ofInt_small a (by omega), ofInt_small b (by omega), IntKind.wrap_i64]
  omega
theorem andL (a b : Nat) (ha : a < 4294967296) (hb : b < 4294967296) : bits .and .i64 (a : Int) (b : Int) = ((a &&& b : Nat) : Int) := by
  have hx : a &&& b ≤ a := Nat.and_le_left
  show IntKind.i64.wrap ((BitVec.ofInt 64 (a : Int) &&& BitVec.ofInt 64 (b : Int)).toNat : Int) = _
  rw [BitVec.toNat_and, ofInt_small a (by omega), ofInt_small b (by omega), IntKind.wrap_i64]
  omega
theorem shrL (a k : Nat) (h : a < 65536) : bits .and .i64 ((a : Int) / 2 ^ k) 1 = ((bitN a k : Nat) : Int) := by
  have e : ((a : Int) / 2 ^ k) = ((a / 2 ^ k : Nat) : Int) := by simp
  have hle : a / 2 ^ k ≤ a := Nat.div_le_self _ _
  rw [e, show (1 : Int) = ((1 : Nat) : Int) from rfl, andL _ _ (by omega) (by omega), Nat.and_one_is_mod]
  rfl
theorem pwL (t : Nat) : pw (t : Int) = ((2 ^ t : Nat) : Int) := by unfold pw; rw [Int.toNat_natCast]
theorem power_le8 (n : Int) (h : n ≤ 8) : pw n ≤ 256 := by
  unfold pw
  have h1 : n.toNat ≤ 8 := by omega
  have : 2 ^ n.toNat ≤ 2 ^ 8 := Nat.pow_le_pow_right (by omega) h1
  omega
theorem power8_any (n : Int) (w : World) (h0 : 0 ≤ n) (h4 : n ≤ 8) : Calls Tryz.prog 45 #[.int .i64 n] w fun e w' => e = .returned (.int .i64 (pw n)) ∧ w = w' := by
  go_enter Tryz.func45, Tryz.ntmps45
  go_wp2
  go_loop [0, 3] (fun i o => ∃ k : Int, 0 ≤ k ∧ k ≤ n ∧ i = .int .i64 k ∧ o = .int .i64 (pw (n - k))) (fun i _ => (intOf i).toNat)
  case atStart => exact ⟨n, h0, Int.le_refl _, rfl, by rw [Int.sub_self]; rfl⟩
  case round =>
    obtain ⟨k, hk0, hkn, rfl, rfl⟩ := hrel
    have b1 := pw_pos (n - k)
    have b2 := power_le8 (n - k) (by omega)
    by_cases hlt : 0 < k
    · go_wp2
      go_round
      case rel => exact ⟨k - 1, by omega, by omega, by go_num, by rw [show n - (k - 1) = (n - k) + 1 from by omega, pw_succ _ (by omega)]⟩
      case measure => simp [intOf]; omega
    · obtain rfl : k = 0 := by omega
      go_wp2
      go_ret
      exact ⟨rfl, rfl⟩
theorem power8_was (t p : Nat) (w : World) (ht : t ≤ 8) (h : 2 ^ t = p) : Calls Tryz.prog 45 #[.int .i64 (t : Int)] w fun e w' => e = .returned (.int .i64 (p : Int)) ∧ w = w' := by
  have h1 := power8_any (t : Int) w (by omega) (by omega)
  rw [pwL, h] at h1
  exact h1
theorem bit8_any (a j : Nat) (w : World) (ha : a < 65536) (hj : j ≤ 8) : Calls Tryz.prog 46 #[.int .i64 a, .int .i64 j] w fun e w' => e = .returned (.int .i64 (bitN a j : Nat)) ∧ w = w' := by
  have h0 : pw 0 = 1 := rfl
  have h1 : pw 1 = 2 := rfl
  have h2 : pw 2 = 4 := rfl
  have h3 : pw 3 = 8 := rfl
  have h4 : pw 4 = 16 := rfl
  have h5 : pw 5 = 32 := rfl
  have h6 : pw 6 = 64 := rfl
  have h7 : pw 7 = 128 := rfl
  have h8 : pw 8 = 256 := rfl
  rcases (show j = 0 ∨ j = 1 ∨ j = 2 ∨ j = 3 ∨ j = 4 ∨ j = 5 ∨ j = 6 ∨ j = 7 ∨ j = 8 from by omega) with rfl | rfl | rfl | rfl | rfl | rfl | rfl | rfl | rfl
  all_goals
    go_enter Tryz.func46, Tryz.ntmps46
    go_wp2_with (go_at_call 45; refine (power8_any _ _ (by omega) (by omega)).mono ?_; rintro e w' ⟨rfl, rfl⟩)
    go_ret
    exact ⟨ret_int (by unfold bitN; simp; try omega), rfl⟩
theorem bit8_was (a j r : Nat) (w : World) (ha : a < 65536) (hj : j ≤ 8) (h : bitN a j = r) : Calls Tryz.prog 46 #[.int .i64 a, .int .i64 j] w fun e w' => e = .returned (.int .i64 (r : Nat)) ∧ w = w' := by
  subst h
  exact bit8_any a j w ha hj

theorem LDs.start {w0 w2 : World} {B0 K : Nat} (h : w0.ownsRow B0 3 1 (.slice (some ⟨B0, 0, none⟩) K K) K ((List.replicate K (0 : Int)).map (Value.int .i64))) (hb : Below w0.heap.size w0 w2) : LDs w2 B0 K (List.replicate K 0) w2 := by
  have hk : ∀ v, w0.ownsRow B0 3 1 v K ((List.replicate K (0 : Int)).map (Value.int .i64)) → w2.ownsRow B0 3 1 v K ((List.replicate K (0 : Int)).map (Value.int .i64)) := fun v h => World.ownsRow.kept (row := none) h ⟨hb.os, hb.tape, hb.output, hb.size, fun k hk _ => hb.block k hk⟩ (by rcases v.ownBlock with _ | g <;> simp)
  refine ⟨?_, (World.grownBy.refl _ _), by simp, fun x hx => by rw [List.eq_of_mem_replicate hx]; omega⟩
  have e : ci (List.replicate K 0) = List.replicate K (0 : Int) := by unfold ci; rw [List.map_replicate]; rfl
  rw [e]
  exact hk _ h
theorem LDs.keep {w2 wr : World} {B0 K : Nat} {r : List Nat} (h : LDs w2 B0 K r wr) {a : Addr} {v : Value} (hc : w2.cell? a = some v) (hne : a.block ≠ B0) : wr.cell? a = some v :=
  (gcell h.2.1 (a := a) (World.block_lt_of_cell? _ _ hc) (by simpa using hne)).trans hc

end Go.Proofs.YtgebplpbnaeckaaGreatDoor

/- LdC: Leads: following them, in both programs; the places of a part's answers. -/
namespace Go.Proofs.YtgebplpbnaeckaaGreatDoor
open Go.RowKit Go.Joins

/-- a list of leads in a block of its own, all else as in w2 -/
def LDg (w2 : World) (base g c K : Nat) (r : List Nat) (wr : World) : Prop :=
  wr.ownsRow base 3 1 (.slice (some ⟨g, 0, none⟩) K c) K ((ci r).map (Value.int .i64)) ∧ w2.grownBy wr (some g) ∧ RB K r
theorem LDg.store {w2 wr : World} {base g c K f y : Nat} {r : List Nat} (h : LDg w2 base g c K r wr) (hy : y < 256) : LDg w2 base g c K (r.set f y) (wr.setCell ⟨g, f, none⟩ (.int .i64 (y : Int))) := by
  refine ⟨?_, gtrans h.2.1 (h.1.stored f _).2, h.2.2.set hy⟩
  rw [ci_set, List.map_set]
  exact (h.1.stored f _).1
theorem LDg.drew {w2 wr : World} {base g c K : Nat} {r : List Nat} (h : LDg w2 base g c K r wr) : LDg w2 base g c K r wr.drew := ⟨h.1, ⟨h.2.1.os, h.2.1.tape, h.2.1.output, h.2.1.size, h.2.1.block⟩, h.2.2⟩
theorem LDg.at {w2 wr : World} {base g c K f : Nat} {r : List Nat} (h : LDg w2 base g c K r wr) (hf : f < K) : wr.cell? ⟨g, f, none⟩ = some (.int .i64 (r.getD f 0 : Nat)) ∧ wr.frozen? ⟨g, f, none⟩ = false := by
  have h1 := h.1.cellAt f (by omega)
  have hl : f < r.length := by rw [h.2.2.1]; exact hf
  have e : ((ci r).map (Value.int .i64))[f]? = some (.int .i64 (r.getD f 0 : Nat)) := by
    unfold ci
    rw [List.map_map, List.getElem?_map, List.getElem?_eq_getElem hl, List.getD_eq_getElem?_getD, List.getElem?_eq_getElem hl]
    rfl
  rw [e] at h1
  exact ⟨h1, h.1.frozenAt f⟩
theorem LDg.keep {w2 wr : World} {base g c K : Nat} {r : List Nat} (h : LDg w2 base g c K r wr) {a : Addr} {v : Value} (hc : w2.cell? a = some v) (hne : a.block ≠ g) : wr.cell? a = some v :=
  (gcell h.2.1 (a := a) (World.block_lt_of_cell? _ _ hc) (by simpa using hne)).trans hc
theorem LDg.below {w2 wr wx : World} {base g c K : Nat} {r : List Nat} (h : LDg w2 base g c K r wr) (hb : Below wr.heap.size wr wx) : LDg w2 base g c K r wx := by
  have hk : ∀ v, wr.ownsRow base 3 1 v K ((ci r).map (Value.int .i64)) → wx.ownsRow base 3 1 v K ((ci r).map (Value.int .i64)) := fun v h => World.ownsRow.kept (row := none) h ⟨hb.os, hb.tape, hb.output, hb.size, fun k hk _ => hb.block k hk⟩ (by rcases v.ownBlock with _ | g <;> simp)
  exact ⟨hk _ h.1, gtrans h.2.1 ((grown_of hb).but _), h.2.2⟩
theorem LDg.anchor {w2 wr : World} {base g c K : Nat} {r : List Nat} (h : LDg w2 base g c K r wr) : LDg wr base g c K r wr := ⟨h.1, World.grownBy.refl _ _, h.2.2⟩
theorem LDg.to {w2 wr : World} {base g c K : Nat} {r r' : List Nat} (h : LDg w2 base g c K r wr) (e : r' = r) : LDg w2 base g c K r' wr := by
  subst e
  exact h
theorem clS_yes {r : List Nat} {k i : Nat} (h : bitN (r.getD i 0) k = 1) : clS r k i = r.set i (r.getD i 0 ||| r.getD k 0) := by unfold clS; rw [if_pos h]
theorem clS_no {r : List Nat} {k i : Nat} (h : bitN (r.getD i 0) k = 0) : clS r k i = r := by unfold clS; rw [if_neg (by rw [h]; decide)]
theorem ints_cells {w : World} {b off : Nat} {zs : List Int} (h : ∀ k, k < zs.length → w.cell? ⟨b, off + k, none⟩ = some (.int .i64 (zs.getD k 0))) : ∀ (j : Nat) (u : Value), (zs.map (Value.int .i64))[j]? = some u → w.cell? ((⟨b, off, none⟩ : Addr).add j) = some u := fun j u hu => by
  rw [List.getElem?_map] at hu
  rcases hz : zs[j]? with _ | z
  · rw [hz] at hu
    simp at hu
  · rw [hz] at hu
    have hj : j < zs.length := by
      rcases Nat.lt_or_ge j zs.length with h1 | h1
      · exact h1
      · rw [List.getElem?_eq_none h1] at hz
        cases hz
    have h1 := h j hj
    rw [List.getD_eq_getElem?_getD, hz] at h1
    cases hu
    rw [Addr.add_lit]
    exact h1

set_option maxHeartbeats 4000000 in
set_option maxRecDepth 100000 in
theorem closure_any (K : Nat) (a : Option Addr) (cap : Nat) (r : List Nat) (w : World) (hi : Ints w a (ci r)) (hr : RB K r) (hK : 1 ≤ K ∧ K ≤ 8) :
    Calls Tryz.prog 62 #[.slice a K cap] w (Gives (ci (clK K K r)) w) := by
  obtain ⟨i0, hi0, hz0, hz1, hz2⟩ := info_parts info_int
  have hlen : (ci r).length = K := by rw [ci_len]; exact hr.1
  obtain ⟨b, off, rfl, hlt, hc⟩ := hi (by omega)
  have HC := hide (ints_cells hc)
  have HLEN := hide hlen
  have HR := hide hr
  have HB := hide hlt
  clear hi hc hlen hr
  go_enter Tryz.func62, Tryz.ntmps62
  go_wp2_with ((at_builtin; refine wpList_append_own _ rfl _ _ 35 rfl w.heap.size 3 i0 (.int .i64 0) 1 8 Tryz.underlying35 hi0 hz0 hz1 hz2 rfl (by decide) _ 0 [] rfl (World.ownsRow_lit w #[] 0 (Nat.le_refl _) (by simp) rfl) ⟨b, off, none⟩ K cap ((ci r).map (Value.int .i64)) rfl ?d1 ?c1 ?c2 ?c3 ?c4 ?c5 ?_))
  case d1 => rw [List.length_map, HLEN.out]; omega
  case c1 => exact fun j u hu => ((bel1 w (.cells #[] 3)).cell (p := (⟨b, off, none⟩ : Addr).add j) (by rw [Addr.add_lit]; exact HB.out)).trans (HC.out j u hu)
  case c2 => intro u hu; rcases List.mem_map.1 hu with ⟨z, _, rfl⟩; rfl
  case c3 => unfold maxLen; omega
  case c4 => omega
  case c5 => simp
  intro v w1 hown hgrow _
  try rw [Nat.zero_add] at hown
  try rw [List.nil_append] at hown
  obtain ⟨g, c, rfl, hgb, hgl⟩ := World.ownsRow.form hown (by omega)
  have D1 := hide (show LDg w1 w.heap.size g c K r w1 from ⟨hown, World.grownBy.refl _ _, HR.out⟩)
  have B1 := hide (((bel1 w (.cells #[] 3))).grown hgrow (by simp) (fun k hk => by cases hk; exact Nat.le_refl _))
  clear hown hgrow hlt hgl
  go_wp2_with fail
  go_loopw [4] (fun i wr => ∃ kk : Nat, kk ≤ K ∧ i = .int .i64 kk ∧ LDg w1 w.heap.size g c K (clK K kk r) wr) (fun i _ => K - (intOf i).toNat)
  case atStart => exact ⟨0, Nat.zero_le _, rfl, D1.out⟩
  case round =>
    clear D1
    obtain ⟨k, hk, rfl, hd⟩ := hrel
    by_cases hkt : k < K
    · have HS := hide (clK_succ K k r)
      obtain ⟨r0, hr0⟩ : ∃ r0, r0 = clK K k r := ⟨_, rfl⟩
      rw [← hr0] at hd HS
      have HD := hide hd
      clear hr0 hd
      go_wp2_with fail
      go_loopw [5] (fun i wr => ∃ ii : Nat, ii ≤ K ∧ i = .int .i64 ii ∧ LDg w1 w.heap.size g c K (clI k ii r0) wr) (fun i _ => K - (intOf i).toNat)
      case atStart => exact ⟨0, Nat.zero_le _, rfl, HD.out⟩
      case round =>
        clear HD
        obtain ⟨i, hi, rfl, hd⟩ := hrel
        by_cases hit : i < K
        · have HY := hide (clI_succ k i r0)
          obtain ⟨u, hu⟩ : ∃ u, u = clI k i r0 := ⟨_, rfl⟩
          rw [← hu] at hd HY
          obtain ⟨x1, x2⟩ := hd.at hit
          obtain ⟨y1, _⟩ := hd.at hkt
          have l1 := hd.2.2.at i
          have l2 := hd.2.2.at k
          have HD := hide hd
          clear hd hu
          obtain ⟨bv, hbv⟩ : ∃ bv, bitN (u.getD i 0) k = bv := ⟨_, rfl⟩
          have lbv := bitN_le (u.getD i 0) k
          have HBV := hide hbv
          rw [hbv] at lbv
          clear hbv
          obtain ⟨ui, hui⟩ : ∃ ui, u.getD i 0 = ui := ⟨_, rfl⟩
          obtain ⟨uk, huk⟩ : ∃ uk, u.getD k 0 = uk := ⟨_, rfl⟩
          have HUI := hide hui
          have HUK := hide huk
          rw [hui] at x1 l1 HBV
          rw [huk] at y1 l2
          clear hui huk
          have hor := orL ui uk (by omega) (by omega)
          rcases (show bv = 0 ∨ bv = 1 from by omega) with rfl | rfl
          · go_wp2_with (go_at_call 46; refine (bit8_was ui k 0 _ (by omega) (by omega) HBV.out).mono ?_; rintro e w' ⟨rfl, rfl⟩)
            go_roundw
            case rel => exact ⟨i + 1, by omega, by go_num, by rw [HY.out, clS_no (by rw [HUI.out]; exact HBV.out)]; exact HD.out⟩
            case measure => simp only [intOf]; omega
          · go_wp2_with (go_at_call 46; refine (bit8_was ui k 1 _ (by omega) (by omega) HBV.out).mono ?_; rintro e w' ⟨rfl, rfl⟩)
            go_region
            all_goals go_wp2
            all_goals
              go_roundw
              case rel => exact ⟨i + 1, by omega, by go_num, by rw [HY.out, clS_yes (by rw [HUI.out]; exact HBV.out), HUI.out, HUK.out]; exact (HD.out.drew).store (or_256 l1 l2)⟩
              case measure => simp only [intOf]; omega
        · obtain rfl : i = K := by omega
          go_wp2_with fail
          go_roundw
          case rel => exact ⟨k + 1, by omega, by go_num, by rw [HS.out]; exact hd⟩
          case measure => simp only [intOf]; omega
    · obtain rfl : k = K := by omega
      go_wp2_with fail
      go_ret
      refine ⟨_, rfl, ?_, ?_⟩
      · have h1 := hd.1
        have h2 := hd.2.2.1
        unfold Owns
        rw [ci_len]
        clear hd
        generalize (clK k k r) = z at h1 h2 ⊢
        rw [h2]
        exact h1
      · exact bgrown B1.out hd.2.1 B1.out.size (fun k hk => by cases hk; exact hgb)

set_option maxHeartbeats 4000000 in
set_option maxRecDepth 100000 in
theorem followLeads_any (K base g c : Nat) (r : List Nat) (w : World) (hg : LDg w base g c K r w) (hK : K ≤ 8) :
    Calls Tryz.prog 129 #[.slice (some ⟨g, 0, none⟩) K c] w fun e w' => e = .returned (.tuple #[]) ∧ LDg w base g c K (clK K K r) w' := by
  have D1 := hide hg
  clear hg
  go_enter Tryz.func129, Tryz.ntmps129
  go_wp2_with fail
  go_loopw [6] (fun i wr => ∃ kk : Nat, kk ≤ K ∧ i = .int .i64 kk ∧ LDg w base g c K (clK K kk r) wr) (fun i _ => K - (intOf i).toNat)
  case atStart => exact ⟨0, Nat.zero_le _, rfl, D1.out⟩
  case round =>
    clear D1
    obtain ⟨k, hk, rfl, hd⟩ := hrel
    by_cases hkt : k < K
    · have HS := hide (clK_succ K k r)
      obtain ⟨r0, hr0⟩ : ∃ r0, r0 = clK K k r := ⟨_, rfl⟩
      rw [← hr0] at hd HS
      have HD := hide hd
      clear hr0 hd
      go_wp2_with fail
      go_loopw [11] (fun i wr => ∃ ii : Nat, ii ≤ K ∧ i = .int .i64 ii ∧ LDg w base g c K (clI k ii r0) wr) (fun i _ => K - (intOf i).toNat)
      case atStart => exact ⟨0, Nat.zero_le _, rfl, HD.out⟩
      case round =>
        clear HD
        obtain ⟨i, hi, rfl, hd⟩ := hrel
        by_cases hit : i < K
        · have HY := hide (clI_succ k i r0)
          obtain ⟨u, hu⟩ : ∃ u, u = clI k i r0 := ⟨_, rfl⟩
          rw [← hu] at hd HY
          obtain ⟨x1, x2⟩ := hd.at hit
          obtain ⟨y1, _⟩ := hd.at hkt
          have l1 := hd.2.2.at i
          have l2 := hd.2.2.at k
          have HD := hide hd
          clear hd hu
          obtain ⟨bv, hbv⟩ : ∃ bv, bitN (u.getD i 0) k = bv := ⟨_, rfl⟩
          have lbv := bitN_le (u.getD i 0) k
          have HBV := hide hbv
          rw [hbv] at lbv
          obtain ⟨ui, hui⟩ : ∃ ui, u.getD i 0 = ui := ⟨_, rfl⟩
          obtain ⟨uk, huk⟩ : ∃ uk, u.getD k 0 = uk := ⟨_, rfl⟩
          have HUI := hide hui
          have HUK := hide huk
          rw [hui] at x1 l1 HBV hbv
          rw [huk] at y1 l2
          clear hui huk
          have hor := orL ui uk (by omega) (by omega)
          have hsh := shrL ui k (by omega)
          rw [hbv] at hsh
          clear hbv
          rcases (show bv = 0 ∨ bv = 1 from by omega) with rfl | rfl
          · go_wp2_with fail
            go_roundw
            case rel => exact ⟨i + 1, by omega, by go_num, by rw [HY.out, clS_no (by rw [HUI.out]; exact HBV.out)]; exact HD.out⟩
            case measure => simp only [intOf]; omega
          · go_wp2_with fail
            go_region
            all_goals go_wp2
            all_goals
              go_roundw
              case rel => exact ⟨i + 1, by omega, by go_num, by rw [HY.out, clS_yes (by rw [HUI.out]; exact HBV.out), HUI.out, HUK.out]; exact (HD.out.drew).store (or_256 l1 l2)⟩
              case measure => simp only [intOf]; omega
        · obtain rfl : i = K := by omega
          go_wp2_with fail
          go_roundw
          case rel => exact ⟨k + 1, by omega, by go_num, by rw [HS.out]; exact hd⟩
          case measure => simp only [intOf]; omega
    · obtain rfl : k = K := by omega
      go_wp2_with fail
      go_end0
      exact ⟨rfl, hd⟩

def PLk (k : Nat) (m : Nat × Nat) : List Nat := ((List.range k).filter fun j => bitN m.1 j == 1).map (plc m)
theorem PLk_yes {k : Nat} {m : Nat × Nat} (h : bitN m.1 k = 1) : ci (PLk (k + 1) m) = ci (PLk k m) ++ [((2 * k + bitN m.2 k : Nat) : Int)] := by
  unfold PLk ci
  rw [List.range_succ, List.filter_append, List.map_append, List.map_append]
  simp [h, plc]
theorem PLk_no {k : Nat} {m : Nat × Nat} (h : bitN m.1 k = 0) : PLk (k + 1) m = PLk k m := by
  unfold PLk
  rw [List.range_succ, List.filter_append, List.map_append]
  simp [h]
theorem PLk_len (k : Nat) (m : Nat × Nat) : (PLk k m).length ≤ k := by
  unfold PLk
  rw [List.length_map]
  exact Nat.le_trans (List.length_filter_le _ _) (by simp)
set_option maxHeartbeats 4000000 in
theorem placesOf_any (N mc mb : Nat) (w : World) (hN : N ≤ 4) (hc : mc < 16) (hb : mb < 16) :
    Calls Tryz.prog 127 #[.int .i64 (N : Int), .agg #[.int .i64 (mc : Int), .int .i64 (mb : Int)]] w (Gives (ci (PL N (mc, mb))) w) := by
  obtain ⟨i0, hi0, hz0, hz1, hz2⟩ := info_parts info_int
  have P0 := PBox.new w (mc : Int) (mb : Int) 79
  have B0 := hide (bel1 w (.cells #[.int .i64 (mc : Int), .int .i64 (mb : Int)] 79))
  have HP := hide P0
  clear P0
  go_enter Tryz.func127, Tryz.ntmps127
  go_wp2_with fail
  go_loopw [5, 8] (fun v i wr => ∃ k : Nat, k ≤ N ∧ i = .int .i64 k ∧ Owns wr (w.heap.size + 1) v (ci (PLk k (mc, mb))) ∧ Below w.heap.size w wr ∧ PBox wr w.heap.size mc mb) (fun _ i _ => N - (intOf i).toNat)
  case atStart => exact ⟨0, Nat.zero_le _, rfl, World.ownsRow_nil _ _ _ _, B0.out, HP.out⟩
  case round =>
    clear B0 HP
    obtain ⟨k, hk, rfl, hown, hbl, hpb⟩ := hrel
    have hpb' := hpb
    obtain ⟨_, q0, q1⟩ := hpb'
    have hsz := hbl.size
    have hsz1 := hpb.1
    have HBL := hide hbl
    have HPB := hide hpb
    have hlen := PLk_len k (mc, mb)
    rw [← ci_len] at hlen
    clear hbl hpb
    by_cases hkt : k < N
    · obtain ⟨ec, hec⟩ : ∃ ec, bitN mc k = ec := ⟨_, rfl⟩
      obtain ⟨eb, heb⟩ : ∃ eb, bitN mb k = eb := ⟨_, rfl⟩
      have l1 := bitN_le mc k
      have l2 := bitN_le mb k
      have s1 := shrL mc k (by omega)
      have s2 := shrL mb k (by omega)
      rw [hec] at l1 s1
      rw [heb] at l2 s2
      have HEC := hide hec
      have HEB := hide heb
      clear hec heb
      rcases (show ec = 0 ∨ ec = 1 from by omega) with rfl | rfl
      · go_wp2_with fail
        go_roundw
        case rel => exact ⟨k + 1, by omega, by go_num, by rw [PLk_no (show bitN (mc, mb).1 k = 0 from HEC.out)]; exact hown, HBL.out, HPB.out⟩
        case measure => simp only [intOf]; omega
      · have hown' : wr.ownsRow (w.heap.size + 1) 3 1 _ (ci (PLk k (mc, mb))).length ((ci (PLk k (mc, mb))).map (Value.int .i64)) := hown
        clear hown
        go_wp2_with ((at_builtin; refine wpList_append_own _ rfl _ _ 35 rfl (w.heap.size + 1) 3 i0 (.int .i64 0) 1 8 Tryz.underlying35 hi0 hz0 hz1 hz2 rfl (by decide) _ _ _ rfl (hown'.alloc _) ⟨wr.heap.size, 0, none⟩ 1 1 [.int .i64 (2 * (k : Int) + (eb : Int))] rfl rfl ?c1 ?c2 ?c3 ?c4 ?c5 ?_))
        case c1 => exact cell_one_new wr _ _
        case c2 => intro u hu; simp at hu; subst hu; rfl
        case c3 => unfold maxLen; omega
        case c4 => omega
        case c5 => simp; omega
        intro v' w2 hown2 hgrow _
        have hpush := hide (Owns.push hown2)
        have hge := fun j hj => (hown'.lt j hj).1
        have hbel : Below w.heap.size w w2 := (HBL.out.alloc HBL.out.size _).grown hgrow (by simp; omega) (fun j hj => by have := hge j hj; omega)
        have hpb2 : PBox w2 w.heap.size mc mb := (HPB.out.below (bel1 _ _)).grown hgrow (fun e => by have := hge _ e.symm; omega)
        clear hown2 hgrow hown'
        go_wp2_with fail
        go_roundw
        case rel => exact ⟨k + 1, by omega, by go_num, by rw [PLk_yes (show bitN (mc, mb).1 k = 1 from HEC.out), show ((2 * k + bitN (mc, mb).2 k : Nat) : Int) = 2 * (k : Int) + (eb : Int) from by rw [show bitN (mc, mb).2 k = eb from HEB.out]; omega]; exact hpush.out, hbel, hpb2⟩
        case measure => simp only [intOf]; omega
    · obtain rfl : k = N := by omega
      go_wp2_with fail
      go_ret
      exact ⟨_, rfl, hown.le (by omega), HBL.out⟩

theorem oppositePlace_was (p q : Nat) (w : World) (hp : p < 16) (h : p ^^^ 1 = q) : Calls Tryz.prog 128 #[.int .i64 (p : Int)] w fun e w' => e = .returned (.int .i64 (q : Int)) ∧ w = w' := by
  have h1 : bits .xor .i64 (p : Int) 1 = (q : Int) := by
    have h1 := xor_small p 1 (by omega) (by omega)
    rw [h] at h1
    exact h1
  have HX := hide h
  clear h
  go_enter Tryz.func128, Tryz.ntmps128
  go_wp2_with fail
  go_ret
  exact ⟨rfl, rfl⟩
end Go.Proofs.YtgebplpbnaeckaaGreatDoor

/- LdI: Leads in the program. -/
namespace Go.Proofs.YtgebplpbnaeckaaGreatDoor
open Go.RowKit Go.Joins

theorem shl_small (t : Nat) (ht : t < 8) : wrap64 ((2 : Int) ^ t) = ((2 ^ t : Nat) : Int) := by
  have h := pow_256 ht
  have e : ((2 : Int) ^ t) = ((2 ^ t : Nat) : Int) := by simp
  rw [e]
  generalize 2 ^ t = p at h
  unfold wrap64
  omega
theorem implVS_was (n : Int) (a : Option Addr) (cap : Nat) (zs : List Int) (r : Bool) (w : World) (hi : Ints w a zs) (hn : zs.length ≤ 1048576) (h : vsB n zs = r) :
    Calls Tryz.prog 99 #[.agg #[.int .i64 n, .slice a zs.length cap]] w fun e w' => e = .returned (.bool r) ∧ Below w.heap.size w w' := by
  subst h
  exact implValidSpace_any n a cap zs w hi hn
theorem specVS_was (n : Int) (a : Option Addr) (cap : Nat) (zs : List Int) (r : Bool) (w : World) (hi : Ints w a zs) (hn : zs.length ≤ 1048576) (h : vsB n zs = r) :
    Calls Tryz.prog 27 #[.agg #[.int .i64 n, .slice a zs.length cap]] w fun e w' => e = .returned (.bool r) ∧ Below w.heap.size w w' := by
  subst h
  exact validSpace_any n a cap zs w hi hn
theorem PL_lt {N : Nat} {m : Nat × Nat} {i : Nat} (hi : i < (PL N m).length) : (PL N m)[i] < 2 * N := by
  have key : ∀ x ∈ PL N m, x < 2 * N := fun x h => by
    unfold PL at h
    obtain ⟨j, hj, e⟩ := List.mem_map.1 h
    have := List.mem_range.1 (List.mem_filter.1 hj).1
    have h2 := plc_lt m this
    omega
  exact key _ (List.getElem_mem hi)
theorem natD_lt {l : List Nat} {k : Nat} (h : k < l.length) : l.getD k 0 = l[k] := by simp [List.getD_eq_getElem?_getD, h]
theorem PL_len (N : Nat) (m : Nat × Nat) : (PL N m).length ≤ N := PLk_len N m
theorem LDs.g {w2 wr : World} {B0 K : Nat} {r : List Nat} (h : LDs w2 B0 K r wr) : LDg w2 B0 B0 K K r wr := h
theorem LDg.join {w1 w2 wr : World} {base g c K : Nat} {r r' : List Nat} (h : LDg w1 base g c K r w2) (h' : LDg w2 base g c K r' wr) : LDg w1 base g c K r' wr := ⟨h'.1, gtrans h.2.1 h'.2.1, h'.2.2⟩

set_option maxHeartbeats 8000000 in
set_option maxRecDepth 100000 in
theorem implLeadsOf_any (n : Int) (a : Option Addr) (cap : Nat) (zs : List Int) (w : World) (hi : Ints w a zs) (hn : zs.length ≤ 1048576) :
    Calls Tryz.prog 105 #[.agg #[.int .i64 n, .slice a zs.length cap]] w (Gives (ci (ldR n zs)) w) := by
  obtain ⟨i0, hi0, hz0, hz1, hz2⟩ := info_parts info_int
  have S0 := SV.new w n a zs cap none [] 37 hi (Ints.nil _ _)
  clear hi
  obtain ⟨⟨_, c0, c1⟩, _⟩ := S0.pair
  by_cases hv : vsB n zs = false
  · have HV := hide (show ci (ldR n zs) = [] from by rw [ldR_no hv]; rfl)
    have HVV := hide hv
    clear hv
    go_enter Tryz.func105, Tryz.ntmps105
    go_wp2_with fail
    refine (implVS_was _ _ _ _ _ _ S0.2.1 hn HVV.out).mono ?_
    rintro e w1 ⟨rfl, hb⟩
    go_wp2
    go_ret
    exact gives_nil HV.out (S0.below hb).2.2.2
  · have hv : vsB n zs = true := by simpa using hv
    have hV := valid_of hv
    have HR := hide (valid_range hV)
    have hN4 := hV.1
    obtain ⟨N, hN⟩ : ∃ N : Nat, n = (N : Int) := ⟨n.toNat, by omega⟩
    subst hN
    have HV := hide (ldR_yes hv)
    have HCR := hide (crR_yes hv)
    have HVV := hide hv
    have hN : 1 ≤ N ∧ N ≤ 4 := by omega
    clear hV hN4 hv
    go_enter Tryz.func105, Tryz.ntmps105
    go_wp2_with fail
    refine (implVS_was _ _ _ _ _ _ S0.2.1 hn HVV.out).mono ?_
    rintro e w1 ⟨rfl, hb⟩
    have S1 := S0.below hb
    clear S0 hb c0 c1
    obtain ⟨⟨_, c0, c1⟩, _⟩ := S1.pair
    go_wp2_with (at_make; refine wpList_make_full _ rfl _ _ 35 rfl w1.heap.size 3 i0 (.int .i64 0) 1 Tryz.underlying35 hi0 hz0 hz1 _ _ _ _ (2 * N) rfl rfl (by first | omega | (simp; omega)) (by first | omega | (simp; omega)) ?b2 ?b3 (by simp) ?_)
    case b2 => rw [hz2]; omega
    case b3 => unfold maxLen; omega
    intro w0 hown0 hgrow0
    rw [madeInts] at hown0
    have S2 := S1.below ((Below.refl _ _).grown hgrow0 (Nat.le_refl _) (fun k h => by cases h))
    have hw1 : w.heap.size < w1.heap.size := S1.1.1
    have HS1 := hide S1
    clear c0 c1 S1 hgrow0
    obtain ⟨⟨_, c0, c1⟩, _⟩ := S2.pair
    go_wp2_with fail
    refine (implCriticalParts_any _ _ _ _ _ S2.2.1 hn).mono ?_
    rintro e w3 ⟨v, rfl, own, hb3⟩
    obtain ⟨L, hL⟩ : ∃ L, L = critL N zs := ⟨_, rfl⟩
    have e1 : crR (N : Int) zs = ofP L := by rw [HCR.out, Int.toNat_natCast, hL]
    rw [e1] at own
    have hl81 : L.length ≤ 81 := by
      rw [hL]
      have h1 : (ordL N).length ≤ 81 := by simpa using range5_of ord_len hN.2
      exact Nat.le_trans (List.length_filter_le _ _) h1
    have H16 : Hid (∀ p ∈ L, p.1 < 16 ∧ p.2 < 16) := fun p hp => by
      rw [hL] at hp
      exact ord_16 hN.2 (List.mem_filter.1 hp).1
    have HLL := hide (ofP_len L)
    have HL := hide hL
    obtain ⟨va, vc, hve, pin⟩ := own.form
    rw [HLL.out] at hve
    subst hve
    have hB0 : w1.heap.size < w0.heap.size := (hown0.lt w1.heap.size rfl).2
    have HNE := hide (ownsP_ne own (g := w1.heap.size) (by omega))
    have PIN := hide pin
    have D0 := hide ((LDs.start hown0 hb3).g)
    have S3 := hide (S2.below hb3)
    have hw3 : w1.heap.size < w3.heap.size := Nat.lt_of_lt_of_le hB0 hb3.size
    obtain ⟨⟨_, d0, _⟩, _⟩ := S3.out.pair
    have DN := hide d0
    clear c0 c1 S2 own hown0 hb3 pin d0 hB0 hL e1
    go_wp2_with fail
    go_loopw [21] (fun i wr => ∃ ii : Nat, ii ≤ L.length ∧ i = .int .i64 ii ∧ LDg w3 w1.heap.size w1.heap.size (2 * N) (2 * N) (stI N L ii) wr) (fun i _ => L.length - (intOf i).toNat)
    case atStart => exact ⟨0, Nat.zero_le _, rfl, D0.out⟩
    case round =>
      clear D0
      obtain ⟨ii, hii, rfl, hc⟩ := hrel
      by_cases hlt : ii < L.length
      · obtain ⟨pc, hpc⟩ : ∃ pc, pc = L[ii].1 := ⟨_, rfl⟩
        obtain ⟨pb, hpb⟩ : ∃ pb, pb = L[ii].2 := ⟨_, rfl⟩
        have hm : L[ii] = (pc, pb) := by rw [hpc, hpb]
        have h16 := H16.out L[ii] (List.getElem_mem hlt)
        rw [hm] at h16
        have HS := hide (show stI N L (ii + 1) = stJ N (pc, pb) N (stI N L ii) from by rw [← hm]; exact stI_succ hlt)
        obtain ⟨r0, hr0⟩ : ∃ r0, r0 = stI N L ii := ⟨_, rfl⟩
        rw [← hr0] at hc HS
        obtain ⟨b1, o1, rfl, hb1, hc1⟩ := PIN.out (by rw [HLL.out]; omega)
        obtain ⟨x1, x2⟩ := hc1 ii (by rw [HLL.out]; omega)
        have hnb : b1 ≠ w1.heap.size := HNE.out b1 o1 none rfl
        rw [ofP_at hlt, hm] at x1 x2
        have z1 := hc.keep x1 (by simpa using hnb)
        have z2 := hc.keep x2 (by simpa using hnb)
        have hc5 := hc.below (bel1 wr (.cells #[.int .i64 (pc : Int), .int .i64 (pb : Int)] 79))
        obtain ⟨_, p0, p1⟩ := PBox.new wr (pc : Int) (pb : Int) 79
        have qn := hc5.keep DN.out (by simp; omega)
        have HC5 := hide hc5
        have hsz : w1.heap.size < wr.heap.size := Nat.lt_of_lt_of_le hw3 hc.2.1.size
        have H16m := hide h16
        clear x1 x2 hc1 hnb hb1 hm h16 hr0 hc hc5 hpc hpb
        go_wp2_with fail
        refine (placesOf_any N pc pb _ hN.2 H16m.out.1 H16m.out.2).mono ?_
        rintro e w6 ⟨v6, rfl, own6, b6⟩
        have HC6 := hide ((HC5.out.below b6).anchor)
        have HJ6 := hide (HC5.out.below b6)
        obtain ⟨P, hP⟩ : ∃ P, P = PL N (pc, pb) := ⟨_, rfl⟩
        have HPR := hide (show prU P P.length r0 = stJ N (pc, pb) N r0 from by rw [hP]; exact pr_eq hN.2 _ _)
        have hpl : P.length ≤ 4 := by rw [hP]; have := PL_len N (pc, pb); omega
        have HPL : Hid (∀ i (hi : i < P.length), P[i] < 2 * N) := fun i hi => by subst hP; exact PL_lt hi
        rw [← hP] at own6
        obtain ⟨ap, cp, hve, ip, gp⟩ := own6.form
        rw [ci_len] at hve
        subst hve
        have IP := hide ip
        have GP : Hid (∀ b o s, ap = some ⟨b, o, s⟩ → b ≠ w1.heap.size) := fun b o s e => by have h1 := (gp b o s e).1; have h2 := hsz; simp at h1; omega
        clear z1 z2 p0 p1 qn HC5 own6 b6 ip gp hP
        go_wp2_with fail
        go_loopw [31] (fun i wq => ∃ uu : Nat, uu ≤ P.length ∧ i = .int .i64 uu ∧ LDg w6 w1.heap.size w1.heap.size (2 * N) (2 * N) (prU P uu r0) wq) (fun i _ => P.length - (intOf i).toNat)
        case atStart => exact ⟨0, Nat.zero_le _, rfl, HC6.out⟩
        case round =>
          clear HC6
          obtain ⟨uu, huu, rfl, hc⟩ := hrel
          by_cases hut : uu < P.length
          · have HU := hide (prU_succ (P := P) (r := r0) hut)
            obtain ⟨f, hf⟩ : ∃ f, f = P[uu] := ⟨_, rfl⟩
            have hf8 : f < 2 * N := by rw [hf]; exact HPL.out uu hut
            obtain ⟨r1, hr1⟩ : ∃ r1, r1 = prU P uu r0 := ⟨_, rfl⟩
            rw [← hr1, ← hf] at HU
            rw [← hr1] at hc
            obtain ⟨b2, o2, rfl, _, hc2⟩ := IP.out (by rw [ci_len]; omega)
            have x1 := hc2 uu (by rw [ci_len]; exact hut)
            rw [ci_at hut, natD_lt hut, ← hf] at x1
            have y1 := hc.keep x1 (by have := GP.out b2 o2 none rfl; simpa using this)
            have HC := hide hc
            have HC2 := hide hc2
            clear x1 hc2 hf hr1 hc
            go_wp2_with fail
            clear y1
            go_loopw [37] (fun i wq => ∃ vv : Nat, vv ≤ P.length ∧ i = .int .i64 vv ∧ LDg w6 w1.heap.size w1.heap.size (2 * N) (2 * N) (prV P f vv r1) wq) (fun i _ => P.length - (intOf i).toNat)
            case atStart => exact ⟨0, Nat.zero_le _, rfl, HC.out⟩
            case round =>
              clear HC
              obtain ⟨vv, hvv, rfl, hc⟩ := hrel
              by_cases hvt : vv < P.length
              · obtain ⟨o, ho⟩ : ∃ o, o = P[vv] := ⟨_, rfl⟩
                have ho8 : o < 2 * N := by rw [ho]; exact HPL.out vv hvt
                have x1 := HC2.out vv (by rw [ci_len]; exact hvt)
                rw [ci_at hvt, natD_lt hvt, ← ho] at x1
                have y1 := hc.keep x1 (by have := GP.out b2 o2 none rfl; simpa using this)
                have HC := hide hc
                have HO := hide ho
                clear x1 ho hc
                by_cases hfo : f = o
                · have hne : ((f : Int) != (o : Int)) = false := by rw [hfo]; simp
                  have HV0 := hide (prV_no (f := f) (r := r1) hvt (show (f != P[vv]) = false from by rw [← HO.out]; simpa using hfo))
                  clear hfo
                  go_wp2_with fail
                  go_roundw
                  case rel => exact ⟨vv + 1, by omega, by go_num, by rw [HV0.out]; exact HC.out⟩
                  case measure => simp only [intOf]; omega
                · have hne : ((f : Int) != (o : Int)) = true := by simp; omega
                  have HV1 := hide (prV_yes (f := f) (r := r1) hvt (show (f != P[vv]) = true from by rw [← HO.out]; simpa using hfo))
                  clear hfo
                  obtain ⟨t, ht⟩ : ∃ t, o ^^^ 1 = t := ⟨_, rfl⟩
                  have ht8 : t < 8 := by rw [← ht]; exact Nat.xor_lt_two_pow (n := 3) (by omega) (by omega)
                  obtain ⟨u, hu⟩ : ∃ u, u = prV P f vv r1 := ⟨_, rfl⟩
                  rw [← HO.out, ht, ← hu] at HV1
                  rw [← hu] at HC
                  obtain ⟨q, hq⟩ := HC.out.at (f := f) hf8
                  have hl := HC.out.2.2.at f
                  obtain ⟨lf, hlf⟩ : ∃ lf, u.getD f 0 = lf := ⟨_, rfl⟩
                  have hp := pow_256 ht8
                  have hsh := shl_small t ht8
                  obtain ⟨pt, hpt⟩ : ∃ pt, 2 ^ t = pt := ⟨_, rfl⟩
                  rw [hlf] at q hl
                  rw [hpt] at hp hsh
                  have hor := orL lf pt (by omega) (by omega)
                  have HE := hide (show bits .or .i64 (lf : Int) (wrap64 ((2 : Int) ^ t)) = ((lf ||| pt : Nat) : Int) from by rw [hsh]; exact hor)
                  have HP := hide hpt
                  have HLF := hide hlf
                  have HT := hide ht
                  clear hu hpt hlf ht hsh hor
                  go_wp2_with fail
                  clear y1
                  go_region_with (go_at_call 128; refine (oppositePlace_was o t _ (by omega) HT.out).mono ?_; rintro e w' ⟨rfl, rfl⟩)
                  all_goals go_wp2
                  all_goals
                    go_roundw
                    case rel => exact ⟨vv + 1, by omega, by go_num, by rw [HV1.out]; unfold upd; rw [HLF.out, HP.out]; have h5 := (HC.out.store (f := f) (or_256 hl hp)).drew; rw [← HE.out] at h5; exact h5⟩
                    case measure => simp only [intOf]; omega
              · obtain rfl : vv = P.length := by omega
                go_wp2_with fail
                go_roundw
                case rel => exact ⟨uu + 1, by omega, by go_num, by rw [HU.out]; exact hc⟩
                case measure => simp only [intOf]; omega
          · obtain rfl : uu = P.length := by omega
            go_wp2_with fail
            go_roundw
            case rel => exact ⟨ii + 1, by omega, by go_num, by rw [HS.out, ← HPR.out]; exact HJ6.out.join hc⟩
            case measure => simp only [intOf]; omega
      · obtain rfl : ii = L.length := by omega
        go_wp2_with fail
        refine (followLeads_any (2 * N) _ _ _ _ _ hc.anchor (by omega)).mono ?_
        rintro e w8 ⟨rfl, h8⟩
        go_wp2_with fail
        go_ret
        have h9 := hc.join h8
        refine ⟨_, rfl, ?_, ?_⟩
        · refine Owns.le (base := w1.heap.size) ?_ (by omega)
          have h1 := h9.1
          have h2 := h9.2.2.1
          unfold Owns
          rw [HV.out, ← HL.out, ci_len]
          clear h9 h8 hc
          generalize (clK (2 * N) (2 * N) (stI N L L.length)) = z at h1 h2 ⊢
          rw [h2]
          exact h1
        · exact bgrown S3.out.2.2.2 h9.2.1 (by omega) (fun k hk => by cases hk; omega)
end Go.Proofs.YtgebplpbnaeckaaGreatDoor

/- BkI: IsBlocked of the program. -/
namespace Go.Proofs.YtgebplpbnaeckaaGreatDoor
open Go.RowKit Go.Joins

theorem ldR_len8 {N : Nat} {zs : List Int} (h : vsB (N : Int) zs = true) : (ci (ldR (N : Int) zs)).length = 2 * N := by
  rw [ci_len]; exact (ldR_rc h).1
set_option maxHeartbeats 4000000 in
set_option maxRecDepth 100000 in
theorem implIsBlocked_any (n : Int) (a : Option Addr) (cap : Nat) (zs : List Int) (w : World) (hi : Ints w a zs) (hn : zs.length ≤ 1048576) :
    Calls Tryz.prog 79 #[.agg #[.int .i64 n, .slice a zs.length cap]] w fun e w' => e = .returned (.bool (blkB n zs)) ∧ Below w.heap.size w w' := by
  have S0 := SV.new w n a zs cap none [] 37 hi (Ints.nil _ _)
  clear hi
  obtain ⟨⟨_, c0, c1⟩, _⟩ := S0.pair
  by_cases hv : vsB n zs = false
  · have HV := hide (blkB_no hv)
    have HVV := hide hv
    clear hv
    go_enter Tryz.func79, Tryz.ntmps79
    go_wp2_with fail
    refine (implVS_was _ _ _ _ _ _ S0.2.1 hn HVV.out).mono ?_
    rintro e w1 ⟨rfl, hb⟩
    go_wp2
    go_ret
    exact ⟨ret_bool HV.out.symm, (S0.below hb).2.2.2⟩
  · have hv : vsB n zs = true := by simpa using hv
    have hN4 := (valid_of hv).1
    obtain ⟨N, hN⟩ : ∃ N : Nat, n = (N : Int) := ⟨n.toNat, by omega⟩
    subst hN
    have HV := hide hv
    have hN : 1 ≤ N ∧ N ≤ 4 := by omega
    have HRC := hide (ldR_rc hv)
    have HLEN := hide (ldR_len8 hv)
    clear hN4 hv
    go_enter Tryz.func79, Tryz.ntmps79
    go_wp2_with fail
    refine (implVS_was _ _ _ _ _ _ S0.2.1 hn HV.out).mono ?_
    rintro e w1 ⟨rfl, hb⟩
    have S1 := S0.below hb
    clear S0 hb c0 c1
    obtain ⟨⟨_, c0, c1⟩, _⟩ := S1.pair
    go_wp2_with fail
    refine (implLeadsOf_any _ _ _ _ _ S1.2.1 hn).mono ?_
    rintro e w3 ⟨v, rfl, own, hb⟩
    obtain ⟨va, vc, rfl, pin, _⟩ := own.form
    have B3 := hide (bnext S1.2.2.2 hb)
    obtain ⟨R, hR⟩ : ∃ R, R = ldR (N : Int) zs := ⟨_, rfl⟩
    have hrl : R.length = 2 * N := by rw [hR]; exact HRC.out.1
    rw [← hR] at pin
    obtain ⟨b, off, rfl, _, hc⟩ := pin (by rw [ci_len, hrl]; omega)
    have HC : Hid (∀ i, i < 2 * N → w3.cell? ⟨b, off + i, none⟩ = some (.int .i64 (R.getD i 0 : Nat))) := fun i hi => by
      have h1 := hc i (by rw [ci_len, hrl]; exact hi)
      rw [ci_at (by rw [hrl]; exact hi)] at h1
      exact h1
    have HRK : Hid (∀ i, R.getD i 0 < 2 ^ (2 * N)) := fun i => by rw [hR]; exact HRC.out.at i
    have HRR := hide hR
    have NO : Hid (∀ i : Nat, i < 2 * N → ¬ (R.getD i 0 ||| 2 ^ i = 2 ^ (2 * N) - 1) → blkB (N : Int) zs = false) := fun i hi hne => by
      rw [blkB_yes HV.out]
      cases ha : allB (2 * (N : Int).toNat) (ldR (N : Int) zs) with
      | false => rfl
      | true =>
        rw [allB_iff, ← HRR.out] at ha
        exact absurd ((full_iff (HRK.out i) hi).2 fun k hk hik => ha i (by simpa using hi) k (by simpa using hk) hik) hne
    have YES : Hid ((∀ i, i < 2 * N → R.getD i 0 ||| 2 ^ i = 2 ^ (2 * N) - 1) → blkB (N : Int) zs = true) := fun h => by
      rw [blkB_yes HV.out, allB_iff, ← HRR.out]
      intro i hi k hk hik
      have hi' : i < 2 * N := by simpa using hi
      exact (full_iff (HRK.out i) hi').1 (h i hi') k (by simpa using hk) hik
    clear own hb pin hR hrl hc S1 c0 c1
    go_wp2_with fail
    rw [HLEN.out]
    have hK8 : 2 ^ (2 * N) ≤ 256 := by
      have : 2 ^ (2 * N) ≤ 2 ^ 8 := Nat.pow_le_pow_right (by omega) (by omega)
      omega
    have hK1 : 1 ≤ 2 ^ (2 * N) := Nat.two_pow_pos _
    obtain ⟨Q, hQ⟩ : ∃ Q, Q = 2 ^ (2 * N) := ⟨_, rfl⟩
    rw [← hQ] at hK8 hK1 HRK NO YES
    have hshN : wrap64 ((2 : Int) ^ (2 * N)) = (Q : Int) := by
      have e : ((2 : Int) ^ (2 * N)) = (Q : Int) := by rw [hQ]; simp
      rw [e]
      unfold wrap64
      omega
    have HSN := hide hshN
    clear hQ hshN
    go_wp2_with fail
    go_loopw [13] (fun i wr => ∃ ii : Nat, ii ≤ 2 * N ∧ i = .int .i64 ii ∧ Hid (∀ i', i' < ii → R.getD i' 0 ||| 2 ^ i' = Q - 1) ∧ Below w3.heap.size w3 wr) (fun i _ => 2 * N - (intOf i).toNat)
    case atStart => exact ⟨0, Nat.zero_le _, rfl, fun i' h => by omega, Below.refl _ _⟩
    case round =>
      obtain ⟨ii, hii, rfl, hall, hbw⟩ := hrel
      have HBW := hide hbw
      by_cases hlt : ii < 2 * N
      · have x0 := HC.out ii hlt
        have x1 := (hbw.cell (p := ⟨b, off + ii, none⟩) (World.block_lt_of_cell? _ _ x0)).trans x0
        clear x0 hbw
        have l1 := HRK.out ii
        have NO' := hide (NO.out ii hlt)
        have hsh := shl_small ii (by omega)
        have hp := pow_256 (t := ii) (by omega)
        have HNX : Hid (R.getD ii 0 ||| 2 ^ ii = Q - 1 → ∀ i', i' < ii + 1 → R.getD i' 0 ||| 2 ^ i' = Q - 1) := fun e i' h => by
          rcases Nat.lt_or_ge i' ii with h1 | h1
          · exact hall.out i' h1
          · obtain rfl : i' = ii := by omega
            exact e
        clear hall
        obtain ⟨ri, hri⟩ : ∃ ri, R.getD ii 0 = ri := ⟨_, rfl⟩
        obtain ⟨pt, hpt⟩ : ∃ pt, 2 ^ ii = pt := ⟨_, rfl⟩
        rw [hri] at x1 l1 NO' HNX
        rw [hpt] at hsh hp NO' HNX
        have hri8 : ri < 256 := Nat.lt_of_lt_of_le l1 hK8
        have hor := orL ri pt (Nat.lt_trans hri8 (by decide)) (Nat.lt_trans hp (by decide))
        have hshN := HSN.out
        have HE : Hid (bits .or .i64 (ri : Int) (wrap64 ((2 : Int) ^ ii)) = ((ri ||| pt : Nat) : Int)) := by unfold Hid; rw [hsh]; exact hor
        have HO := hide (or_256 hri8 hp)
        clear hri hpt hor hsh hshN
        go_wp2_with fail
        go_quiet (fail)
        by_cases hq : ri ||| pt = Q - 1
        · have HB : Hid ((bits .or .i64 (ri : Int) (wrap64 ((2 : Int) ^ ii)) != wrap64 (wrap64 ((2 : Int) ^ (2 * N)) - 1)) = false) := by
            unfold Hid
            rw [HE.out, HSN.out, IntWalk.wrap64_in _ (by omega), hq]
            simp
            omega
          have HQ := hide hq
          clear hq
          rw [HB.out]
          go_wp2_with fail
          go_roundw
          case rel => exact ⟨ii + 1, by omega, by go_num, HNX.out HQ.out, bnext HBW.out (belN _ _)⟩
          case measure => simp only [intOf]; omega
        · have HB : Hid ((bits .or .i64 (ri : Int) (wrap64 ((2 : Int) ^ ii)) != wrap64 (wrap64 ((2 : Int) ^ (2 * N)) - 1)) = true) := by
            unfold Hid
            rw [HE.out, HSN.out, IntWalk.wrap64_in _ (by omega), bne_iff_ne]
            omega
          have HQ := hide hq
          clear hq
          rw [HB.out]
          go_wp2_with fail
          go_ret
          exact ⟨ret_bool (NO'.out HQ.out).symm, bnext B3.out (bnext HBW.out (belN _ _))⟩
      · obtain rfl : ii = 2 * N := by omega
        go_wp2_with fail
        go_ret
        exact ⟨ret_bool (YES.out hall.out).symm, bnext B3.out HBW.out⟩
end Go.Proofs.YtgebplpbnaeckaaGreatDoor
