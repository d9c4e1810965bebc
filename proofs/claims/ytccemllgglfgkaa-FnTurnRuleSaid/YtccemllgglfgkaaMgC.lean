/- Texts of this seat one behind the other: Turn, VotesW, TurnI, TurnS. Conditions: none. -/
import Derived.Test.YtccemllgglfgkaaOrd
import Derived.Test.YtccemllgglfgkaaWant
import Derived.Test.YtccemllgglfgkaaOpen
import Derived.Test.YtccemllgglfgkaaVotes
import Derived.Deep.RegionWith
import Derived.Outline
import Derived.RegionTactic
import Derived.BigRegion

/- Turn: Issues settled in turn: what comes of it, the program's loop and the model's loop. -/
namespace Go.Proofs.Ytccemllgglfgkaa
open Go.RowKit Go.Joins

/-- one issue more: the answer of more than half, or the other one if that is not open -/
def stpT (zs vs : List Int) (s : Nat × Nat) (j : Nat) : Nat × Nat :=
  (s.1 + 2 ^ j, if openB zs ((s.1 + 2 ^ j : Nat) : Int) ((s.2 + (if vs.length < 2 * supN vs j then 2 ^ j else 0) : Nat) : Int) = true then s.2 + (if vs.length < 2 * supN vs j then 2 ^ j else 0)
    else (s.2 + (if vs.length < 2 * supN vs j then 2 ^ j else 0)) ^^^ 2 ^ j)
def turnK (zs vs ls : List Int) : Nat → Nat × Nat
  | 0 => (0, 0)
  | k + 1 => stpT zs vs (turnK zs vs ls k) (ls.getD k 0).toNat
def turnV (n : Int) (zs vs ls : List Int) : Int := if (vvB n zs vs && ordB n ls) = true then ((turnK zs vs ls ls.length).2 : Nat) else -1
theorem turnV_yes {n : Int} {zs vs ls : List Int} (h : vvB n zs vs = true) (h2 : ordB n ls = true) : turnV n zs vs ls = ((turnK zs vs ls ls.length).2 : Nat) := if_pos (by rw [h, h2]; rfl)
theorem turnV_no1 {n : Int} {zs vs ls : List Int} (h : vvB n zs vs = false) : turnV n zs vs ls = -1 := if_neg (by rw [h, Bool.false_and]; decide)
theorem turnV_no2 {n : Int} {zs vs ls : List Int} (h : ordB n ls = false) : turnV n zs vs ls = -1 := if_neg (by rw [h, Bool.and_false]; decide)

theorem tf1 : ∀ c : Fin 16, ∀ j : Fin 4, bitN c.val j.val = 0 → c.val ||| 2 ^ j.val = c.val + 2 ^ j.val ∧ c.val + 2 ^ j.val < 16 := by decide +kernel
theorem tf2 : ∀ c b : Fin 16, ∀ j : Fin 4, bitN c.val j.val = 0 → b.val &&& c.val = b.val → b.val ||| 2 ^ j.val = b.val + 2 ^ j.val ∧ b.val + 2 ^ j.val < 16 ∧ (b.val + 2 ^ j.val) &&& (c.val + 2 ^ j.val) = b.val + 2 ^ j.val ∧ b.val &&& (c.val + 2 ^ j.val) = b.val ∧ (b.val + 2 ^ j.val) ^^^ 2 ^ j.val = b.val ∧ b.val ^^^ 2 ^ j.val = b.val + 2 ^ j.val := by decide +kernel
theorem tf3 : ∀ c : Fin 16, ∀ i j : Fin 4, bitN c.val j.val = 0 → bitN (c.val + 2 ^ j.val) i.val = if i.val = j.val then 1 else bitN c.val i.val := by decide +kernel
/-- what holds of the part when k issues are settled -/
def TInv (ls : List Int) (k : Nat) (s : Nat × Nat) : Prop := s.1 < 16 ∧ s.2 < 16 ∧ s.2 &&& s.1 = s.2 ∧ ∀ i, i < 4 → (bitN s.1 i = 1 ↔ ∃ t, t < k ∧ ls.getD t 0 = (i : Int))
theorem ord_at {n : Int} {ls : List Int} (h : OrdOk n ls) (h4 : n ≤ 4) {k : Nat} (hk : k < ls.length) : ∃ j : Nat, ls[k] = (j : Int) ∧ j < 4 ∧ (j : Int) < n ∧ (ls.getD k 0).toNat = j := by
  have := h.2.1 k hk
  rw [getD_lt hk] at this
  exact ⟨ls[k].toNat, by omega, by omega, by omega, by rw [getD_lt hk]⟩
theorem tinv {n : Int} {zs vs ls : List Int} (h : OrdOk n ls) (h4 : n ≤ 4) : ∀ k, k ≤ ls.length → TInv ls k (turnK zs vs ls k)
  | 0, _ => ⟨by simp [turnK], by simp [turnK], by simp [turnK], fun i _ => by simp [turnK, bitN]⟩
  | k + 1, hk => by
    obtain ⟨hc, hb, hbc, hbits⟩ := tinv (zs := zs) (vs := vs) h h4 k (by omega)
    obtain ⟨j, hj, hj4, _, hjn⟩ := ord_at h h4 (k := k) (by omega)
    have h0 : bitN (turnK zs vs ls k).1 j = 0 := by
      have hle := bitN_le (turnK zs vs ls k).1 j
      rcases (show bitN (turnK zs vs ls k).1 j = 0 ∨ bitN (turnK zs vs ls k).1 j = 1 by omega) with h1 | h1
      · exact h1
      · obtain ⟨t, ht, e⟩ := (hbits j hj4).1 h1
        have := h.2.2 k (by omega) t ht
        rw [getD_lt (show k < ls.length by omega), hj] at this
        exact absurd e this
    have f1 := (tf1 ⟨_, hc⟩ ⟨j, hj4⟩ h0).2
    have f2 := tf2 ⟨_, hc⟩ ⟨_, hb⟩ ⟨j, hj4⟩ h0 hbc
    simp only at f1 f2
    have e : turnK zs vs ls (k + 1) = stpT zs vs (turnK zs vs ls k) j := by rw [turnK, hjn]
    rw [e]
    have both : (stpT zs vs (turnK zs vs ls k) j).2 = (turnK zs vs ls k).2 ∨ (stpT zs vs (turnK zs vs ls k) j).2 = (turnK zs vs ls k).2 + 2 ^ j := by
      unfold stpT
      by_cases hs : vs.length < 2 * supN vs j
      · simp only [if_pos hs]
        split
        · exact .inr rfl
        · exact .inl f2.2.2.2.2.1
      · simp only [if_neg hs, Nat.add_zero]
        split
        · exact .inl rfl
        · exact .inr f2.2.2.2.2.2
    refine ⟨f1, ?_, ?_, fun i hi => ?_⟩
    · rcases both with e2 | e2
      · rw [e2]; exact hb
      · rw [e2]; exact f2.2.1
    · rcases both with e2 | e2
      · rw [e2]; exact f2.2.2.2.1
      · rw [e2]; exact f2.2.2.1
    · have f3 := tf3 ⟨_, hc⟩ ⟨i, hi⟩ ⟨j, hj4⟩ h0
      simp only at f3
      show bitN ((turnK zs vs ls k).1 + 2 ^ j) i = 1 ↔ _
      rw [f3]
      constructor
      · intro hh
        split at hh
        · rename_i hij
          exact ⟨k, by omega, by rw [getD_lt (show k < ls.length by omega), hj, hij]⟩
        · obtain ⟨t, ht, et⟩ := (hbits i hi).1 hh
          exact ⟨t, by omega, et⟩
      · rintro ⟨t, ht, et⟩
        split
        · rfl
        · rename_i hij
          rcases Nat.lt_or_ge t k with h1 | h1
          · exact (hbits i hi).2 ⟨t, h1, et⟩
          · obtain rfl : t = k := by omega
            rw [getD_lt (show t < ls.length by omega), hj] at et
            omega
/-- What one step needs. -/
theorem tstep {n : Int} {zs vs ls : List Int} (h : OrdOk n ls) (h4 : n ≤ 4) {k : Nat} (hk : k < ls.length) :
    ∃ j : Nat, ls[k] = (j : Int) ∧ j < 4 ∧ (j : Int) < n ∧ turnK zs vs ls (k + 1) = stpT zs vs (turnK zs vs ls k) j ∧ (turnK zs vs ls k).1 < 16 ∧ (turnK zs vs ls k).2 < 16 ∧
      (turnK zs vs ls k).1 ||| 2 ^ j = (turnK zs vs ls k).1 + 2 ^ j ∧ (turnK zs vs ls k).1 + 2 ^ j < 16 ∧ (turnK zs vs ls k).2 ||| 2 ^ j = (turnK zs vs ls k).2 + 2 ^ j ∧ (turnK zs vs ls k).2 + 2 ^ j < 16 := by
  obtain ⟨hc, hb, hbc, hbits⟩ := tinv (zs := zs) (vs := vs) h h4 k (by omega)
  obtain ⟨j, hj, hj4, hjn, hjt⟩ := ord_at h h4 hk
  have h0 : bitN (turnK zs vs ls k).1 j = 0 := by
    have hle := bitN_le (turnK zs vs ls k).1 j
    rcases (show bitN (turnK zs vs ls k).1 j = 0 ∨ bitN (turnK zs vs ls k).1 j = 1 by omega) with h1 | h1
    · exact h1
    · obtain ⟨t, ht, e⟩ := (hbits j hj4).1 h1
      have := h.2.2 k hk t ht
      rw [getD_lt hk, hj] at this
      exact absurd e this
  have f1 := tf1 ⟨_, hc⟩ ⟨j, hj4⟩ h0
  have f2 := tf2 ⟨_, hc⟩ ⟨_, hb⟩ ⟨j, hj4⟩ h0 hbc
  simp only at f1 f2
  exact ⟨j, hj, hj4, hjn, by rw [turnK, hjt], hc, hb, f1.1, f1.2, f2.1, f2.2.1⟩
theorem bits_or : ∀ p q : Fin 16, bits .or .i64 ((p.val : Nat) : Int) ((q.val : Nat) : Int) = ((p.val ||| q.val : Nat) : Int) := by decide +kernel
theorem bits_xor : ∀ p q : Fin 16, bits .xor .i64 ((p.val : Nat) : Int) ((q.val : Nat) : Int) = ((p.val ^^^ q.val : Nat) : Int) := by decide +kernel
theorem bits_and : ∀ p q : Fin 16, bits .and .i64 ((p.val : Nat) : Int) ((q.val : Nat) : Int) = ((p.val &&& q.val : Nat) : Int) := by decide +kernel
theorem tpush : ∀ k : Fin 4, ∀ a : Fin 16, ∀ j : Fin 4, a.val < 2 ^ k.val → bitN (a.val + 2 ^ k.val) j.val = if j.val = k.val then 1 else bitN a.val j.val := by decide +kernel
theorem tbitB (vs : List Int) (j : Nat) (hj : j < 4) : ∀ k, k ≤ 4 → bitN (wantB vs k) j = if j < k ∧ vs.length < 2 * supN vs j then 1 else 0
  | 0, _ => by simp [wantB, bitN]
  | k + 1, h => by
    have ih := tbitB vs j hj k (by omega)
    have hlt := wantB_lt vs k
    have h16 : wantB vs k < 16 := Nat.lt_of_lt_of_le hlt (Nat.pow_le_pow_right (n := 2) (by omega) (show k ≤ 4 by omega))
    by_cases he : vs.length < 2 * supN vs k
    · have hp := tpush ⟨k, by omega⟩ ⟨wantB vs k, h16⟩ ⟨j, hj⟩ hlt
      simp only at hp
      rw [wantB_yes he, hp, ih]
      by_cases hjk : j = k
      · subst hjk
        rw [if_pos rfl, if_pos ⟨by omega, he⟩]
      · rw [if_neg hjk]
        by_cases hjl : j < k
        · simp [hjl, show j < k + 1 by omega]
        · rw [if_neg (by omega), if_neg (by omega)]
    · rw [wantB_no he, ih]
      by_cases hjk : j < k
      · simp [hjk, show j < k + 1 by omega]
      · rw [if_neg (by omega), if_neg]
        rintro ⟨h1, h2⟩
        obtain rfl : j = k := by omega
        exact he h2
theorem and_pow : ∀ M : Fin 16, ∀ j : Fin 4, M.val &&& 2 ^ j.val = if bitN M.val j.val = 1 then 2 ^ j.val else 0 := by decide +kernel
theorem maj_and {vs : List Int} {m j : Nat} (hm : m ≤ 4) (hj : j < m) : wantB vs m &&& 2 ^ j = if vs.length < 2 * supN vs j then 2 ^ j else 0 := by
  have h16 : wantB vs m < 16 := Nat.lt_of_lt_of_le (wantB_lt vs m) (Nat.pow_le_pow_right (n := 2) (by omega) hm)
  have h := and_pow ⟨_, h16⟩ ⟨j, by omega⟩
  simp only at h
  rw [h, tbitB vs j (by omega) m hm]
  by_cases hs : vs.length < 2 * supN vs j
  · rw [if_pos (show (if j < m ∧ vs.length < 2 * supN vs j then 1 else 0) = 1 from if_pos ⟨hj, hs⟩), if_pos hs]
  · rw [if_neg (show ¬ (if j < m ∧ vs.length < 2 * supN vs j then 1 else 0) = 1 from by rw [if_neg (fun h => hs h.2)]; omega), if_neg hs]
theorem stpT_open {zs vs : List Int} {c b j q : Nat} (hq : (if vs.length < 2 * supN vs j then 2 ^ j else 0) = q) (h : openB zs ((c + 2 ^ j : Nat) : Int) ((b + q : Nat) : Int) = true) : stpT zs vs (c, b) j = (c + 2 ^ j, b + q) := by
  subst hq
  unfold stpT
  rw [if_pos h]
theorem stpT_shut {zs vs : List Int} {c b j q : Nat} (hq : (if vs.length < 2 * supN vs j then 2 ^ j else 0) = q) (h : openB zs ((c + 2 ^ j : Nat) : Int) ((b + q : Nat) : Int) = false) : stpT zs vs (c, b) j = (c + 2 ^ j, (b + q) ^^^ 2 ^ j) := by
  subst hq
  unfold stpT
  rw [if_neg (by rw [h]; decide)]
end Go.Proofs.Ytccemllgglfgkaa

/- VotesW: ValidVotes and validVotes with a free answer. -/
namespace Go.Proofs.Ytccemllgglfgkaa
open Go.RowKit Go.Joins

theorem votes_was (n : Int) (a l : Option Addr) (cap capl : Nat) (zs vs : List Int) (w : World) (r : Bool) (hi : Ints w a zs) (hj : Ints w l vs) (hn : zs.length ≤ 1048576) (hm : vs.length ≤ 1048576) (hr : vvB n zs vs = r) :
    Calls Try.prog 46 #[.agg #[.int .i64 n, .slice a zs.length cap], .slice l vs.length capl] w fun e w' => e = .returned (.bool r) ∧ Below w.heap.size w w' :=
  (implValidVotes_any n a l cap capl zs vs w hi hj hn hm).mono fun _ _ ⟨he, hb⟩ => ⟨he.trans (ret_bool hr), hb⟩
end Go.Proofs.Ytccemllgglfgkaa

/- TurnI: TurnRule of the program. -/
namespace Go.Proofs.Ytccemllgglfgkaa
open Go.RowKit Go.Joins

theorem isOrder_is (n : Int) (a : Option Addr) (cap : Nat) (ls : List Int) (w : World) (r : Bool) (hi : Ints w a ls) (h1 : 1 ≤ n) (h4 : n ≤ 4) (hm : ls.length ≤ 1048576) (hr : ordB n ls = r) :
    Calls Try.prog 78 #[.int .i64 n, .slice a ls.length cap] w fun e w' => e = .returned (.bool r) ∧ Below w.heap.size w w' := by
  subst hr
  exact isOrder_any n a cap ls w hi h1 h4 hm
theorem asks_is (n c b : Int) (a : Option Addr) (cap g : Nat) (zs : List Int) (w : World) (r : Bool) (hi : Ints w a zs) (hn : zs.length ≤ 1048576) (bx : Box w g n a zs.length cap) (hr : ∀ x ∈ zs, 0 ≤ x ∧ x ≤ 15) (hc : 0 ≤ c ∧ c ≤ 15) (hb : 0 ≤ b) (h : openB zs c b = r) :
    Calls Try.prog 119 #[.agg #[.int .i64 c, .int .i64 b], .pointer (some ⟨g, 0, none⟩)] w fun e w' => e = .returned (.bool r) ∧ Below w.heap.size w w' := by
  subst h
  exact openAsker1_any n c b a cap g zs w hi hn bx hr hc hb

set_option maxHeartbeats 8000000 in
set_option maxRecDepth 100000 in
theorem implTurnRule_any (n : Int) (a l q : Option Addr) (cap capl capq : Nat) (zs vs ls : List Int) (w : World) (hi : Ints w a zs) (hj : Ints w l vs) (hq : Ints w q ls) (hn : zs.length ≤ 1048576) (hm : vs.length ≤ 1048576) (ho : ls.length ≤ 1048576) :
    Calls Try.prog 39 #[.agg #[.int .i64 n, .slice a zs.length cap], .slice l vs.length capl, .slice q ls.length capq] w fun e w' => e = .returned (.int .i64 (turnV n zs vs ls)) ∧ Below w.heap.size w w' := by
  have S0 := SV.new w n a zs cap l vs 28 hi hj
  have q0 := hq.below (bel1 w (.cells #[.int .i64 n, .slice a zs.length cap] 28))
  clear hi hj hq
  by_cases hv : vvB n zs vs = false
  · have HN := hide (turnV_no1 (ls := ls) hv)
    have HV := hide hv
    clear hv
    obtain ⟨⟨_, c0, c1⟩, _⟩ := S0.pair
    go_enter Try.func39, Try.ntmps39
    go_wp2_with fail
    refine (votes_was _ _ _ _ _ _ _ _ false S0.2.1 S0.2.2.1 hn hm HV.out).mono ?_
    rintro e w1 ⟨rfl, hb⟩
    go_wp2
    go_ret
    exact ⟨ret_int HN.out.symm, (S0.below hb).2.2.2⟩
  · have hv : vvB n zs vs = true := by simpa using hv
    have hV := vv_of hv
    obtain ⟨m, rfl⟩ := Int.eq_ofNat_of_zero_le (show 0 ≤ n from by have := hV.1.1; omega)
    have h4 : m ≤ 4 := by have := hV.1.1; omega
    have h1 : 1 ≤ (m : Int) := hV.1.1.1
    have HZ := hide (valid_range hV.1)
    have HV := hide hv
    by_cases hod : ordB (m : Int) ls = false
    · have HN := hide (turnV_no2 (zs := zs) (vs := vs) hod)
      have HO := hide hod
      clear hv hV hod
      obtain ⟨⟨_, c0, c1⟩, _⟩ := S0.pair
      go_enter Try.func39, Try.ntmps39
      go_wp2_with fail
      refine (votes_was _ _ _ _ _ _ _ _ true S0.2.1 S0.2.2.1 hn hm HV.out).mono ?_
      rintro e w1 ⟨rfl, hb⟩
      have S1 := S0.below hb
      have q1 := q0.below hb
      clear S0 hb c0 c1
      obtain ⟨⟨_, c0, c1⟩, _⟩ := S1.pair
      go_wp2_with fail
      refine (isOrder_is _ _ _ _ _ false q1 h1 (by omega) ho HO.out).mono ?_
      rintro e w2 ⟨rfl, hb⟩
      go_wp2
      go_ret
      exact ⟨ret_int HN.out.symm, (S1.below hb).2.2.2⟩
    · have hod : ordB (m : Int) ls = true := by simpa using hod
      have HN := hide (turnV_yes hv hod)
      have HO := hide hod
      have HOK := hide (ord_of hod)
      have HMJ := hide (majV_yes hv)
      have hM := wantB_lt vs m
      have hM16 : wantB vs m < 16 := Nat.lt_of_lt_of_le hM (Nat.pow_le_pow_right (n := 2) (by omega) h4)
      clear hv hV hod hM
      obtain ⟨⟨_, c0, c1⟩, _⟩ := S0.pair
      go_enter Try.func39, Try.ntmps39
      go_wp2_with fail
      refine (votes_was _ _ _ _ _ _ _ _ true S0.2.1 S0.2.2.1 hn hm HV.out).mono ?_
      rintro e w1 ⟨rfl, hb⟩
      have S1 := S0.below hb
      have q1 := q0.below hb
      clear S0 hb c0 c1
      obtain ⟨⟨_, c0, c1⟩, _⟩ := S1.pair
      go_wp2_with fail
      refine (isOrder_is _ _ _ _ _ true q1 h1 (by omega) ho HO.out).mono ?_
      rintro e w2 ⟨rfl, hb⟩
      have S2 := S1.below hb
      have q2 := q1.below hb
      clear S1 hb c0 c1 q1
      obtain ⟨⟨_, c0, c1⟩, _⟩ := S2.pair
      go_wp2_with fail
      refine (implMajorityOf_any _ _ _ _ _ _ _ _ S2.2.1 S2.2.2.1 hn hm).mono ?_
      rintro e w3 ⟨rfl, hb⟩
      rw [HMJ.out, Int.toNat_natCast]
      have S3 := S2.below hb
      have q3 := q2.below hb
      clear S2 hb c0 c1 q2
      obtain ⟨⟨_, c0, c1⟩, _⟩ := S3.pair
      go_wp2_with fail
      refine (openAsker_any _ _ _ _ _).mono ?_
      rintro e w4 ⟨rfl, hw4⟩
      have bxo := Box.new w3 m a zs.length cap 28
      have S4 := S3.below (bel1 w3 (.cells #[.int .i64 m, .slice a zs.length cap] 28))
      have q4 := q3.below (bel1 w3 (.cells #[.int .i64 m, .slice a zs.length cap] 28))
      obtain ⟨gs, hgs⟩ : ∃ gs : Nat, w3.heap.size = gs := ⟨_, rfl⟩
      rw [← hw4] at bxo S4 q4
      rw [hgs] at bxo ⊢
      have hblk0 := heap_alloc_new w4 (.cells #[.int .i64 0, .int .i64 0] 67)
      have BA := bel1 w4 (.cells #[.int .i64 0, .int .i64 0] 67)
      clear S3 c0 c1 q3 hw4 hgs
      go_wp2
      go_loopw [30] (fun i wr => ∃ k : Nat, k ≤ ls.length ∧ i = .int .i64 k ∧ wr.heap[w4.heap.size]? = some (.cells #[.int .i64 ((turnK zs vs ls k).1 : Nat), .int .i64 ((turnK zs vs ls k).2 : Nat)] 67 (0, 0)) ∧ Below w4.heap.size w4 wr) (fun i _ => ls.length - (intOf i).toNat)
      case atStart => exact ⟨0, Nat.zero_le _, rfl, hblk0, BA⟩
      case round =>
        clear hblk0 BA
        obtain ⟨k, hk, rfl, hblk, BR⟩ := hrel
        by_cases hlt : k < ls.length
        · obtain ⟨j, hj, hj4, hjm, hst, hC, hB, o1, o1', o2, o2'⟩ := tstep (zs := zs) (vs := vs) HOK.out (by omega) hlt
          obtain ⟨bq, oq, rfl, hbq, hcq⟩ := (q4.below BR) (by omega)
          have hck := hcq k hlt
          rw [getD_lt hlt, hj] at hck
          have hma := maj_and (vs := vs) (m := m) (j := j) h4 (by omega)
          obtain ⟨p, hp⟩ : ∃ p : Nat × Nat, turnK zs vs ls k = p := ⟨_, rfl⟩
          obtain ⟨C, B⟩ := p
          rw [hp] at hblk hst hC hB o1 o1' o2 o2'
          simp only at hblk hC hB o1 o1' o2 o2'
          have hpj : 2 ^ j < 16 := Nat.lt_of_lt_of_le (Nat.pow_lt_pow_right (by omega) hj4) (by decide)
          obtain ⟨Q, hQ⟩ : ∃ Q : Nat, (if vs.length < 2 * supN vs j then 2 ^ j else 0) = Q := ⟨_, rfl⟩
          have hQv : (Q = 0 ∨ Q = 2 ^ j) := by rw [← hQ]; split <;> simp
          have hoB : B ||| Q = B + Q ∧ B + Q < 16 ∧ Q < 16 := by
            rcases hQv with e | e
            · rw [e]; simp; omega
            · rw [e]; exact ⟨o2, o2', hpj⟩
          have hw2 := wrap_pow2 j (by omega)
          have e1 : bits .or .i64 (C : Int) (2 ^ j) = ((C + 2 ^ j : Nat) : Int) := by rw [← pow_cast, bits_or ⟨C, hC⟩ ⟨2 ^ j, hpj⟩, o1]
          have e2 : bits .and .i64 (wantB vs m : Int) (2 ^ j) = (Q : Int) := by rw [← pow_cast, bits_and ⟨_, hM16⟩ ⟨2 ^ j, hpj⟩, hma, hQ]
          have e3 : bits .or .i64 (B : Int) (Q : Int) = ((B + Q : Nat) : Int) := by rw [bits_or ⟨B, hB⟩ ⟨Q, hoB.2.2⟩, hoB.1]
          have e4 : bits .xor .i64 ((B + Q : Nat) : Int) (2 ^ j) = (((B + Q) ^^^ 2 ^ j : Nat) : Int) := by rw [← pow_cast, bits_xor ⟨B + Q, hoB.2.1⟩ ⟨2 ^ j, hpj⟩]
          have hB1 := hoB.2.1
          have HQ := hide hQ
          have HST := hide hst
          obtain ⟨C1, hC1⟩ : ∃ C1, C + 2 ^ j = C1 := ⟨_, rfl⟩
          obtain ⟨B1, hB1'⟩ : ∃ B1, B + Q = B1 := ⟨_, rfl⟩
          obtain ⟨B2, hB2⟩ : ∃ B2, B1 ^^^ 2 ^ j = B2 := ⟨_, rfl⟩
          rw [hC1] at e1 o1'
          rw [hB1'] at e3 e4 hB1
          rw [hB2] at e4
          have HC1 := hide hC1
          have HB1 := hide hB1'
          have HB2 := hide hB2
          have g0 := cell_of_block hblk 0
          have g1 := cell_of_block hblk 1
          have f0 := unfrozen_of_block hblk 0
          have f1 := unfrozen_of_block hblk 1
          have BH := hide BR
          have HBK := hide hblk
          have HC16 := hide o1'
          clear hcq hst hp hma hQ hQv hoB hC hB o1 o2 o2' hC1 hB1' hB2 hblk BR hj
          by_cases hop : openB zs (C1 : Int) (B1 : Int) = true
          · have HOP := hide hop
            clear hop
            go_wp2
            go_region
            all_goals go_wp2
            all_goals go_region
            all_goals go_wp2_with fail
            all_goals
              have BX := bdrew' ((bdrew' (BH.out.setCell (p := ⟨w4.heap.size, 0, none⟩) (Nat.le_refl _) (.int .i64 (C1 : Int)))).setCell (p := ⟨w4.heap.size, 1, none⟩) (Nat.le_refl _) (.int .i64 (B1 : Int)))
              refine (asks_is _ _ _ _ _ _ _ _ true (S4.below BX).2.1 hn (bxo.below BX) HZ.out (by have := HC16.out; omega) (by omega) HOP.out).mono ?_
              rintro e w8 ⟨rfl, hb8⟩
              have hX := block_setCell (i := 1) (block_setCell (i := 0) HBK.out (.int .i64 (C1 : Int))) (.int .i64 (B1 : Int))
              go_wp2
              go_roundw
              case rel => exact ⟨k + 1, by omega, by go_num, by
                rw [HST.out, stpT_open HQ.out (by rw [HC1.out, HB1.out]; exact HOP.out)]
                simp only [HC1.out, HB1.out]
                exact (hb8.block _ (lt_of_block hX)).trans hX, bnext BX hb8⟩
              case measure => simp [intOf]; omega
          · have hop : openB zs (C1 : Int) (B1 : Int) = false := by simpa using hop
            have HOP := hide hop
            clear hop
            go_wp2
            go_region
            all_goals go_wp2
            all_goals go_region
            all_goals go_wp2_with fail
            all_goals
              have BX := bdrew' ((bdrew' (BH.out.setCell (p := ⟨w4.heap.size, 0, none⟩) (Nat.le_refl _) (.int .i64 (C1 : Int)))).setCell (p := ⟨w4.heap.size, 1, none⟩) (Nat.le_refl _) (.int .i64 (B1 : Int)))
              refine (asks_is _ _ _ _ _ _ _ _ false (S4.below BX).2.1 hn (bxo.below BX) HZ.out (by have := HC16.out; omega) (by omega) HOP.out).mono ?_
              rintro e w8 ⟨rfl, hb8⟩
              have hX := block_setCell (i := 1) (block_setCell (i := 0) HBK.out (.int .i64 (C1 : Int))) (.int .i64 (B1 : Int))
              have hY := (hb8.block _ (lt_of_block hX)).trans hX
              have y1 := cell_of_block hY 1
              have x1 := unfrozen_of_block hY 1
              have BY := bnext BX hb8
              have HY := hide hY
              clear hX hY hb8 BX g0 g1 f0 f1
              go_wp2
              go_region
              all_goals go_wp2
              all_goals
                go_roundw
                case rel => exact ⟨k + 1, by omega, by go_num, by
                  rw [HST.out, stpT_shut HQ.out (by rw [HC1.out, HB1.out]; exact HOP.out)]
                  simp only [HC1.out, HB1.out, HB2.out]
                  exact block_setCell (i := 1) HY.out _, bdrew' (BY.setCell (p := ⟨w4.heap.size, 1, none⟩) (Nat.le_refl _) _)⟩
                case measure => simp [intOf]; omega
        · obtain rfl : k = ls.length := by omega
          have g1 := cell_of_block hblk 1
          have hS := bnext S4.2.2.2 BR
          go_wp2
          go_ret
          exact ⟨ret_int HN.out.symm, hS⟩
end Go.Proofs.Ytccemllgglfgkaa

/- TurnS: TurnRule of the model. -/
namespace Go.Proofs.Ytccemllgglfgkaa
open Go.RowKit Go.Joins

theorem power_was (n r : Int) (w : World) (h0 : 0 ≤ n) (h4 : n ≤ 6) (hr : pw n = r) : Calls Try.prog 90 #[.int .i64 n] w fun e w' => e = .returned (.int .i64 r) ∧ w = w' := by
  subst hr
  exact power_any n w h0 h4
theorem open_was (n c b : Int) (a : Option Addr) (cap : Nat) (zs : List Int) (w : World) (r : Bool) (hi : Ints w a zs) (hn : zs.length ≤ 1048576) (hr : ∀ x ∈ zs, 0 ≤ x ∧ x ≤ 15) (hc : 0 ≤ c ∧ c ≤ 15) (hb : 0 ≤ b) (h : openB zs c b = r) :
    Calls Try.prog 116 #[.agg #[.int .i64 n, .slice a zs.length cap], .agg #[.int .i64 c, .int .i64 b]] w fun e w' => e = .returned (.bool r) ∧ Below w.heap.size w w' := by
  subst h
  exact open_any n c b a cap zs w hi hn hr hc hb

set_option maxHeartbeats 4000000 in
theorem validOrder_any (m : Nat) (a q : Option Addr) (cap capq len : Nat) (ls : List Int) (w : World) (hq : Ints w q ls) (h1 : 1 ≤ m) (h4 : m ≤ 4) (ho : ls.length ≤ 1048576) :
    Calls Try.prog 76 #[.agg #[.int .i64 m, .slice a len cap], .slice q ls.length capq] w fun e w' => e = .returned (.bool (ordB (m : Int) ls)) ∧ Below w.heap.size w w' := by
  have bx0 := Box.new w m a len cap 28
  have B0 := bel1 w (.cells #[.int .i64 m, .slice a len cap] 28)
  have iq0 := hq.below B0
  have hsub : IntKind.i64.wrap ((m : Int) - 1) = (m : Int) - 1 := IntWalk.i64_in _ (by omega)
  obtain ⟨w1, hw1⟩ : ∃ w1, w.alloc (.cells #[.int .i64 m, .slice a len cap] 28) = w1 := ⟨_, rfl⟩
  rw [hw1] at bx0 B0 iq0
  clear hq
  go_enter Try.func76, Try.ntmps76
  go_wp2_with fail
  clear hw1
  go_loopw [5] (fun x wr => ∃ i : Nat, i ≤ ls.length ∧ x = .int .i64 i ∧ (∀ t, t < i → (0 ≤ ls.getD t 0 ∧ ls.getD t 0 ≤ (m : Int) - 1) ∧ ∀ k, k < t → ls.getD k 0 ≠ ls.getD t 0) ∧ Below w1.heap.size w1 wr) (fun x _ => ls.length - (intOf x).toNat)
  case atStart => exact ⟨0, Nat.zero_le _, rfl, fun t ht => by omega, Below.refl _ _⟩
  case round =>
    obtain ⟨i, hi, rfl, hall, BR⟩ := hrel
    have HA := hide hall
    clear hall
    obtain ⟨_, c0, c1⟩ := bx0.below BR
    have hB := hide (bnext B0 BR)
    by_cases hlt : i < ls.length
    · obtain ⟨bq, oq, rfl, hbq, hcq⟩ := (iq0.below BR) (by omega)
      have hci := hcq i hlt
      have HCQ := hide hcq
      obtain ⟨x, hx⟩ : ∃ x, ls.getD i 0 = x := ⟨_, rfl⟩
      rw [hx] at hci
      clear hcq
      by_cases hr : 0 ≤ x ∧ x ≤ (m : Int) - 1
      · have HR := hide hr
        have HX := hide hx
        clear hr hx
        go_wp2
        go_quiet ((go_at_call 56; exact quiet_left (inRange_yes _ _ _ _ HR.out)))
        obtain ⟨wi, hwi⟩ : ∃ wi, wi = wr.drewN nq := ⟨_, rfl⟩
        have BI : Below w1.heap.size w1 wi := by rw [hwi]; exact bnext BR (belN _ _)
        have BWI : Below wr.heap.size wr wi := by rw [hwi]; exact belN _ _
        rw [← hwi]
        clear hwi c0 c1 hci
        go_wp2
        go_loopw [6] (fun y wq => ∃ k : Nat, k ≤ i ∧ y = .int .i64 k ∧ (∀ t, t < k → ls.getD t 0 ≠ x) ∧ Below wi.heap.size wi wq) (fun y _ => i - (intOf y).toNat)
        case atStart => exact ⟨0, Nat.zero_le _, rfl, fun t ht => by omega, Below.refl _ _⟩
        case round =>
          obtain ⟨k, hk, rfl, hne, BQ⟩ := hrel
          have HNE := hide hne
          clear hne
          by_cases hki : k < i
          · have hci := (BQ.cell (p := ⟨bq, oq + i, none⟩) (Nat.lt_of_lt_of_le hbq BWI.size)).trans ((BWI.cell (p := ⟨bq, oq + i, none⟩) hbq).trans (HCQ.out i hlt))
            have hck := (BQ.cell (p := ⟨bq, oq + k, none⟩) (Nat.lt_of_lt_of_le hbq BWI.size)).trans ((BWI.cell (p := ⟨bq, oq + k, none⟩) hbq).trans (HCQ.out k (by omega)))
            rw [HX.out] at hci
            obtain ⟨y, hy⟩ : ∃ y, ls.getD k 0 = y := ⟨_, rfl⟩
            rw [hy] at hck
            by_cases he : y = x
            · have hE : (y == x) = true := by rw [beq_iff_eq]; exact he
              have HN : Hid (ordB (m : Int) ls = false) := ordB_false (fun h => h.2.2 i hlt k hki (by rw [hy, HX.out]; exact he))
              have HE := hide (bnext BI BQ)
              clear he hy BQ BI BWI
              go_wp2
              go_quiet (fail)
              go_wp2
              go_ret
              exact ⟨ret_bool HN.out.symm, bnext (bnext B0 HE.out) (belN _ _)⟩
            · have hE : (y == x) = false := by rw [beq_eq_false_iff_ne]; exact he
              have HY : Hid (ls.getD k 0 ≠ x) := by rw [hy]; exact he
              have HE := hide BQ
              clear he hy BQ BI BWI
              go_wp2
              go_quiet (fail)
              go_wp2
              go_roundw
              case rel => exact ⟨k + 1, by omega, by go_num, fun t ht => by
                rcases Nat.lt_or_ge t k with h | h
                · exact HNE.out t h
                · obtain rfl : t = k := by omega
                  exact HY.out, bnext HE.out (belN _ _)⟩
              case measure => simp only [intOf]; omega
          · obtain rfl : k = i := by omega
            go_wp2
            go_roundw
            case rel => exact ⟨k + 1, by omega, by go_num, fun t ht => by
              rcases Nat.lt_or_ge t k with h | h
              · exact HA.out t h
              · obtain rfl : t = k := by omega
                rw [HX.out]
                exact ⟨HR.out, HNE.out⟩, bnext BI BQ⟩
            case measure => simp only [intOf]; omega
      · have HN : Hid (ordB (m : Int) ls = false) := ordB_false (fun h => hr (by rw [← hx]; exact h.2.1 i hlt))
        have HR := hide hr
        clear hr hx
        go_wp2
        go_quiet ((go_at_call 56; exact quiet_left (inRange_no _ _ _ _ HR.out)))
        go_wp2
        go_ret
        exact ⟨ret_bool HN.out.symm, bnext hB.out (belN _ _)⟩
    · obtain rfl : i = ls.length := by omega
      by_cases hl : (ls.length : Int) = m
      · have hE : ((ls.length : Int) == (m : Int)) = true := by rw [beq_iff_eq]; exact hl
        have HN : Hid (ordB (m : Int) ls = true) := ordB_true ⟨hl, fun i hi => (HA.out i hi).1, fun i hi k hk => (HA.out i hi).2 k hk⟩
        clear hl
        go_wp2
        go_ret
        exact ⟨ret_bool HN.out.symm, hB.out⟩
      · have hE : ((ls.length : Int) == (m : Int)) = false := by rw [beq_eq_false_iff_ne]; exact hl
        have HN : Hid (ordB (m : Int) ls = false) := ordB_false (fun h => hl h.1)
        clear hl
        go_wp2
        go_ret
        exact ⟨ret_bool HN.out.symm, hB.out⟩

set_option maxHeartbeats 8000000 in
set_option maxRecDepth 100000 in
theorem inTurn_any (m : Nat) (a l q : Option Addr) (cap capl capq : Nat) (zs vs ls : List Int) (w : World) (hi : Ints w a zs) (hj : Ints w l vs) (hq : Ints w q ls) (hn : zs.length ≤ 1048576) (h5 : vs.length ≤ 5) (h1 : 1 ≤ m) (h4 : m ≤ 4) (hz : ∀ x ∈ zs, 0 ≤ x ∧ x ≤ 15) (hr : ∀ x ∈ vs, 0 ≤ x ∧ x ≤ 15) (hok : OrdOk (m : Int) ls) :
    Calls Try.prog 77 #[.agg #[.int .i64 m, .slice a zs.length cap], .slice l vs.length capl, .slice q ls.length capq] w fun e w' => e = .returned (.int .i64 ((turnK zs vs ls ls.length).2 : Nat)) ∧ Below w.heap.size w w' := by
  have S0 := SV.new w m a zs cap l vs 28 hi hj
  have q0 := hq.below (bel1 w (.cells #[.int .i64 m, .slice a zs.length cap] 28))
  have hlen : ls.length ≤ 4 := by have := hok.1; omega
  have HOK := hide hok
  have HZ := hide hz
  have HR := hide hr
  clear hi hj hq hok hz hr
  obtain ⟨wp, hwp⟩ : ∃ wp, w.alloc (.cells #[.int .i64 m, .slice a zs.length cap] 28) = wp := ⟨_, rfl⟩
  rw [hwp] at S0 q0
  have hblk0 := heap_alloc_new wp (.cells #[.int .i64 0, .int .i64 0] 67)
  have BA := bel1 wp (.cells #[.int .i64 0, .int .i64 0] 67)
  have hws : wp.heap.size = w.heap.size + 1 := by rw [← hwp]; simp
  go_enter Try.func77, Try.ntmps77
  go_wp2_with fail
  rw [← hws]
  clear hwp hws
  go_loopw [8] (fun i wr => ∃ k : Nat, k ≤ ls.length ∧ i = .int .i64 k ∧ wr.heap[wp.heap.size]? = some (.cells #[.int .i64 ((turnK zs vs ls k).1 : Nat), .int .i64 ((turnK zs vs ls k).2 : Nat)] 67 (0, 0)) ∧ Below wp.heap.size wp wr) (fun i _ => ls.length - (intOf i).toNat)
  case atStart => exact ⟨0, Nat.zero_le _, rfl, hblk0, BA⟩
  case round =>
    clear hblk0 BA
    obtain ⟨k, hk, rfl, hblk, BR⟩ := hrel
    by_cases hlt : k < ls.length
    · obtain ⟨j, hj, hj4, hjm, hst, hC, hB, o1, o1', o2, o2'⟩ := tstep (zs := zs) (vs := vs) HOK.out (by omega) hlt
      obtain ⟨bq, oq, rfl, hbq, hcq⟩ := (q0.below BR) (by omega)
      have hck := hcq k hlt
      rw [getD_lt hlt, hj] at hck
      obtain ⟨p, hp⟩ : ∃ p : Nat × Nat, turnK zs vs ls k = p := ⟨_, rfl⟩
      obtain ⟨C, B⟩ := p
      rw [hp] at hblk hst hC hB o1 o1' o2 o2'
      simp only at hblk hC hB o1 o1' o2 o2'
      obtain ⟨P, hP⟩ : ∃ P : Nat, 2 ^ j = P := ⟨_, rfl⟩
      have hP16 : P < 16 := by rw [← hP]; exact Nat.lt_of_lt_of_le (Nat.pow_lt_pow_right (by omega) hj4) (by decide)
      have HPW : Hid (pw (j : Int) = (P : Int)) := by unfold Hid; rw [pw_nat, ← pow_cast, hP]
      have hx0 : bits .xor .i64 (B : Int) (P : Int) = ((B ^^^ P : Nat) : Int) := bits_xor ⟨B, hB⟩ ⟨P, hP16⟩
      have hx1 : bits .xor .i64 ((B : Int) + (P : Int)) (P : Int) = (((B + P) ^^^ P : Nat) : Int) := by
        rw [← Int.natCast_add]; exact bits_xor ⟨B + P, by rw [hP] at o2'; exact o2'⟩ ⟨P, hP16⟩
      rw [hP] at o1' o2'
      have HP := hide hP
      have HST := hide hst
      have g0 := cell_of_block hblk 0
      have g1 := cell_of_block hblk 1
      have hgl := lt_of_block hblk
      have hs5 := supN_le vs j
      have SR := S0.below BR
      obtain ⟨⟨_, c0, c1⟩, _, il, _⟩ := SR.pair
      have BH := hide BR
      have HBK := hide hblk
      clear hcq hst hp hP o1 o2 hblk BR hj
      by_cases hs : vs.length < 2 * supN vs j
      · have HS := hide hs
        by_cases hop : openB zs ((C : Int) + (P : Int)) ((B : Int) + (P : Int)) = true
        · have HOP := hide hop
          clear hop
          go_wp2_with (first
            | (go_at_call 90; refine (power_was _ _ _ (by omega) (by omega) HPW.out).mono ?_; rintro e w' ⟨rfl, rfl⟩)
            | (go_at_call 83; refine (support_any _ _ _ _ _ (il.below (bel1 wr _)) (by omega) HR.out (by omega)).mono ?_; rintro e w' ⟨rfl, rfl⟩))
          have hX := heap_alloc_new wr (.cells #[.int .i64 ((C : Int) + (P : Int)), .int .i64 ((B : Int) + (P : Int))] 67)
          have bN := bel1 wr (.cells #[.int .i64 ((C : Int) + (P : Int)), .int .i64 ((B : Int) + (P : Int))] 67)
          obtain ⟨wn, hwn⟩ : ∃ wn, wr.alloc (.cells #[.int .i64 ((C : Int) + (P : Int)), .int .i64 ((B : Int) + (P : Int))] 67) = wn := ⟨_, rfl⟩
          rw [hwn] at hX bN ⊢
          obtain ⟨H, hH⟩ : ∃ H, wr.heap.size = H := ⟨_, rfl⟩
          rw [hH] at hX ⊢
          have hGH : wp.heap.size ≠ H := by omega
          have hge : wp.heap.size ≤ H := by omega
          have SN := SR.below bN
          refine (open_was _ _ _ _ _ _ _ true SN.2.1 hn HZ.out (by omega) (by omega) HOP.out).mono ?_
          rintro e w8 ⟨rfl, hb8⟩
          have hX8 := (hb8.block _ (lt_of_block hX)).trans hX
          have hG8 := (hb8.block _ (Nat.lt_of_lt_of_le hgl bN.size)).trans ((bN.block _ hgl).trans HBK.out)
          have B8 := bnext (bnext BH.out bN) hb8
          have x0 := cell_of_block hX8 0
          have x1 := cell_of_block hX8 1
          have f0 := unfrozen_of_block hG8 0
          have f1 := unfrozen_of_block hG8 1
          have r0 := cell_of_block hG8 0
          have r1 := cell_of_block hG8 1
          have HG8 := hide hG8
          have HB8 := hide B8
          clear hX bN hwn hH SN hb8 hX8 hG8 B8 g0 g1 c0 c1 il
          go_wp2
          go_roundw
          case rel => exact ⟨k + 1, by omega, by go_num, by
            rw [HST.out, stpT_open (q := P) (by rw [if_pos HS.out]; exact HP.out) (by rw [HP.out, Int.natCast_add, Int.natCast_add]; exact HOP.out), HP.out]
            simp only [Int.natCast_add]
            exact block_setCell (i := 1) (block_setCell (i := 0) HG8.out _) _, (HB8.out.setCell (p := ⟨wp.heap.size, 0, none⟩) (Nat.le_refl _) _).setCell (p := ⟨wp.heap.size, 1, none⟩) (Nat.le_refl _) _⟩
          case measure => simp [intOf]; omega
        · have hop : openB zs ((C : Int) + (P : Int)) ((B : Int) + (P : Int)) = false := by simpa using hop
          have HOP := hide hop
          clear hop
          go_wp2_with (first
            | (go_at_call 90; refine (power_was _ _ _ (by omega) (by omega) HPW.out).mono ?_; rintro e w' ⟨rfl, rfl⟩)
            | (go_at_call 83; refine (support_any _ _ _ _ _ (il.below (bel1 wr _)) (by omega) HR.out (by omega)).mono ?_; rintro e w' ⟨rfl, rfl⟩))
          have hX := heap_alloc_new wr (.cells #[.int .i64 ((C : Int) + (P : Int)), .int .i64 ((B : Int) + (P : Int))] 67)
          have bN := bel1 wr (.cells #[.int .i64 ((C : Int) + (P : Int)), .int .i64 ((B : Int) + (P : Int))] 67)
          obtain ⟨wn, hwn⟩ : ∃ wn, wr.alloc (.cells #[.int .i64 ((C : Int) + (P : Int)), .int .i64 ((B : Int) + (P : Int))] 67) = wn := ⟨_, rfl⟩
          rw [hwn] at hX bN ⊢
          obtain ⟨H, hH⟩ : ∃ H, wr.heap.size = H := ⟨_, rfl⟩
          rw [hH] at hX ⊢
          have hGH : wp.heap.size ≠ H := by omega
          have hge : wp.heap.size ≤ H := by omega
          have SN := SR.below bN
          refine (open_was _ _ _ _ _ _ _ false SN.2.1 hn HZ.out (by omega) (by omega) HOP.out).mono ?_
          rintro e w8 ⟨rfl, hb8⟩
          have hX8 := (hb8.block _ (lt_of_block hX)).trans hX
          have hG8 := (hb8.block _ (Nat.lt_of_lt_of_le hgl bN.size)).trans ((bN.block _ hgl).trans HBK.out)
          have B8 := bnext (bnext BH.out bN) hb8
          have x0 := cell_of_block hX8 0
          have x1 := cell_of_block hX8 1
          have f0 := unfrozen_of_block hG8 0
          have f1 := unfrozen_of_block hG8 1
          have r0 := cell_of_block hG8 0
          have r1 := cell_of_block hG8 1
          have HG8 := hide hG8
          have HB8 := hide B8
          have u0 := unfrozen_of_block hX8 0
          have u1 := unfrozen_of_block hX8 1
          clear hX bN hwn hH SN hb8 hX8 hG8 B8 g0 g1 c0 c1 il
          go_wp2
          go_roundw
          case rel => exact ⟨k + 1, by omega, by go_num, by
            rw [HST.out, stpT_shut (q := P) (by rw [if_pos HS.out]; exact HP.out) (by rw [HP.out, Int.natCast_add, Int.natCast_add]; exact HOP.out), HP.out]
            simp only [Int.natCast_add]
            exact block_setCell (i := 1) (block_setCell (i := 0) ((Below.heap_setCell _ _ _ _ hGH).trans HG8.out) _) _,
            ((HB8.out.setCell (p := ⟨H, 1, none⟩) hge _).setCell (p := ⟨wp.heap.size, 0, none⟩) (Nat.le_refl _) _).setCell (p := ⟨wp.heap.size, 1, none⟩) (Nat.le_refl _) _⟩
          case measure => simp [intOf]; omega
      · have HS := hide hs
        by_cases hop : openB zs ((C : Int) + (P : Int)) (B : Int) = true
        · have HOP := hide hop
          clear hop
          go_wp2_with (first
            | (go_at_call 90; refine (power_was _ _ _ (by omega) (by omega) HPW.out).mono ?_; rintro e w' ⟨rfl, rfl⟩)
            | (go_at_call 83; refine (support_any _ _ _ _ _ (il.below (bel1 wr _)) (by omega) HR.out (by omega)).mono ?_; rintro e w' ⟨rfl, rfl⟩))
          have hX := heap_alloc_new wr (.cells #[.int .i64 ((C : Int) + (P : Int)), .int .i64 (B : Int)] 67)
          have bN := bel1 wr (.cells #[.int .i64 ((C : Int) + (P : Int)), .int .i64 (B : Int)] 67)
          obtain ⟨wn, hwn⟩ : ∃ wn, wr.alloc (.cells #[.int .i64 ((C : Int) + (P : Int)), .int .i64 (B : Int)] 67) = wn := ⟨_, rfl⟩
          rw [hwn] at hX bN ⊢
          obtain ⟨H, hH⟩ : ∃ H, wr.heap.size = H := ⟨_, rfl⟩
          rw [hH] at hX ⊢
          have hGH : wp.heap.size ≠ H := by omega
          have hge : wp.heap.size ≤ H := by omega
          have SN := SR.below bN
          refine (open_was _ _ _ _ _ _ _ true SN.2.1 hn HZ.out (by omega) (by omega) HOP.out).mono ?_
          rintro e w8 ⟨rfl, hb8⟩
          have hX8 := (hb8.block _ (lt_of_block hX)).trans hX
          have hG8 := (hb8.block _ (Nat.lt_of_lt_of_le hgl bN.size)).trans ((bN.block _ hgl).trans HBK.out)
          have B8 := bnext (bnext BH.out bN) hb8
          have x0 := cell_of_block hX8 0
          have x1 := cell_of_block hX8 1
          have f0 := unfrozen_of_block hG8 0
          have f1 := unfrozen_of_block hG8 1
          have r0 := cell_of_block hG8 0
          have r1 := cell_of_block hG8 1
          have HG8 := hide hG8
          have HB8 := hide B8
          clear hX bN hwn hH SN hb8 hX8 hG8 B8 g0 g1 c0 c1 il
          go_wp2
          go_roundw
          case rel => exact ⟨k + 1, by omega, by go_num, by
            rw [HST.out, stpT_open (q := 0) (by rw [if_neg HS.out]) (by rw [HP.out, Int.natCast_add, Int.natCast_add]; simp only [Int.natCast_zero, Int.add_zero]; exact HOP.out), HP.out]
            simp only [Int.natCast_add, Nat.add_zero]
            exact block_setCell (i := 1) (block_setCell (i := 0) HG8.out _) _, (HB8.out.setCell (p := ⟨wp.heap.size, 0, none⟩) (Nat.le_refl _) _).setCell (p := ⟨wp.heap.size, 1, none⟩) (Nat.le_refl _) _⟩
          case measure => simp [intOf]; omega
        · have hop : openB zs ((C : Int) + (P : Int)) (B : Int) = false := by simpa using hop
          have HOP := hide hop
          clear hop
          go_wp2_with (first
            | (go_at_call 90; refine (power_was _ _ _ (by omega) (by omega) HPW.out).mono ?_; rintro e w' ⟨rfl, rfl⟩)
            | (go_at_call 83; refine (support_any _ _ _ _ _ (il.below (bel1 wr _)) (by omega) HR.out (by omega)).mono ?_; rintro e w' ⟨rfl, rfl⟩))
          have hX := heap_alloc_new wr (.cells #[.int .i64 ((C : Int) + (P : Int)), .int .i64 (B : Int)] 67)
          have bN := bel1 wr (.cells #[.int .i64 ((C : Int) + (P : Int)), .int .i64 (B : Int)] 67)
          obtain ⟨wn, hwn⟩ : ∃ wn, wr.alloc (.cells #[.int .i64 ((C : Int) + (P : Int)), .int .i64 (B : Int)] 67) = wn := ⟨_, rfl⟩
          rw [hwn] at hX bN ⊢
          obtain ⟨H, hH⟩ : ∃ H, wr.heap.size = H := ⟨_, rfl⟩
          rw [hH] at hX ⊢
          have hGH : wp.heap.size ≠ H := by omega
          have hge : wp.heap.size ≤ H := by omega
          have SN := SR.below bN
          refine (open_was _ _ _ _ _ _ _ false SN.2.1 hn HZ.out (by omega) (by omega) HOP.out).mono ?_
          rintro e w8 ⟨rfl, hb8⟩
          have hX8 := (hb8.block _ (lt_of_block hX)).trans hX
          have hG8 := (hb8.block _ (Nat.lt_of_lt_of_le hgl bN.size)).trans ((bN.block _ hgl).trans HBK.out)
          have B8 := bnext (bnext BH.out bN) hb8
          have x0 := cell_of_block hX8 0
          have x1 := cell_of_block hX8 1
          have f0 := unfrozen_of_block hG8 0
          have f1 := unfrozen_of_block hG8 1
          have r0 := cell_of_block hG8 0
          have r1 := cell_of_block hG8 1
          have HG8 := hide hG8
          have HB8 := hide B8
          have u0 := unfrozen_of_block hX8 0
          have u1 := unfrozen_of_block hX8 1
          clear hX bN hwn hH SN hb8 hX8 hG8 B8 g0 g1 c0 c1 il
          go_wp2
          go_roundw
          case rel => exact ⟨k + 1, by omega, by go_num, by
            rw [HST.out, stpT_shut (q := 0) (by rw [if_neg HS.out]) (by rw [HP.out, Int.natCast_add, Int.natCast_add]; simp only [Int.natCast_zero, Int.add_zero]; exact HOP.out), HP.out]
            simp only [Int.natCast_add, Nat.add_zero]
            exact block_setCell (i := 1) (block_setCell (i := 0) ((Below.heap_setCell _ _ _ _ hGH).trans HG8.out) _) _,
            ((HB8.out.setCell (p := ⟨H, 1, none⟩) hge _).setCell (p := ⟨wp.heap.size, 0, none⟩) (Nat.le_refl _) _).setCell (p := ⟨wp.heap.size, 1, none⟩) (Nat.le_refl _) _⟩
          case measure => simp [intOf]; omega
    · obtain rfl : k = ls.length := by omega
      have g1 := cell_of_block hblk 1
      have hS := bnext S0.2.2.2 BR
      go_wp2
      go_ret
      exact ⟨rfl, hS⟩

theorem order_was (m : Nat) (a q : Option Addr) (cap capq len : Nat) (ls : List Int) (w : World) (r : Bool) (hq : Ints w q ls) (h1 : 1 ≤ m) (h4 : m ≤ 4) (ho : ls.length ≤ 1048576) (hr : ordB (m : Int) ls = r) :
    Calls Try.prog 76 #[.agg #[.int .i64 m, .slice a len cap], .slice q ls.length capq] w fun e w' => e = .returned (.bool r) ∧ Below w.heap.size w w' := by
  subst hr
  exact validOrder_any m a q cap capq len ls w hq h1 h4 ho

set_option maxHeartbeats 4000000 in
theorem specTurnRule_any (n : Int) (a l q : Option Addr) (cap capl capq : Nat) (zs vs ls : List Int) (w : World) (hi : Ints w a zs) (hj : Ints w l vs) (hq : Ints w q ls) (hn : zs.length ≤ 1048576) (hm : vs.length ≤ 1048576) (ho : ls.length ≤ 1048576) :
    Calls Try.prog 38 #[.agg #[.int .i64 n, .slice a zs.length cap], .slice l vs.length capl, .slice q ls.length capq] w fun e w' => e = .returned (.int .i64 (turnV n zs vs ls)) ∧ Below w.heap.size w w' := by
  have S0 := SV.new w n a zs cap l vs 28 hi hj
  have q0 := hq.below (bel1 w (.cells #[.int .i64 n, .slice a zs.length cap] 28))
  clear hi hj hq
  by_cases hv : vsB n zs = false
  · have HN := hide (turnV_no1 (ls := ls) (vvB_no (vs := vs) hv))
    go_enter Try.func38, Try.ntmps38
    go_wp2_with fail
    refine (validSpace_any _ _ _ _ _ S0.2.1 hn).mono ?_
    rintro e w1 ⟨rfl, hb⟩
    go_wp2
    go_ret
    exact ⟨ret_int HN.out.symm, (S0.below hb).2.2.2⟩
  · have hv : vsB n zs = true := by simpa using hv
    have hV := hide (valid_of hv)
    have HVV := hide (vvB_yes (vs := vs) hv)
    by_cases hvo : votesB zs vs = false
    · have HN := hide (turnV_no1 (ls := ls) (HVV.out.trans hvo))
      go_enter Try.func38, Try.ntmps38
      go_wp2_with fail
      refine (validSpace_any _ _ _ _ _ S0.2.1 hn).mono ?_
      rintro e w1 ⟨rfl, hb⟩
      have S1 := S0.below hb
      obtain ⟨⟨_, c0, c1⟩, _⟩ := S1.pair
      go_wp2_with fail
      refine (validVotes_any _ _ _ _ _ _ _ _ S1.2.1 S1.2.2.1 hn hm).mono ?_
      rintro e w2 ⟨rfl, hb2⟩
      go_wp2
      go_ret
      exact ⟨ret_int HN.out.symm, (S1.below hb2).2.2.2⟩
    · have hvo : votesB zs vs = true := by simpa using hvo
      have hvv := HVV.out.trans hvo
      have HVO := hide (votes_of hvo)
      have HR := hide (votes_range hV.out HVO.out)
      have HZ := hide (valid_range hV.out)
      have h5 : vs.length ≤ 5 := by have := HVO.out.2; omega
      obtain ⟨m, rfl⟩ := Int.eq_ofNat_of_zero_le (show 0 ≤ n from by have := hV.out.1; omega)
      have h4 : m ≤ 4 := by have := hV.out.1; omega
      have h1 : 1 ≤ m := by have := hV.out.1; omega
      by_cases hod : ordB (m : Int) ls = false
      · have HN := hide (turnV_no2 (zs := zs) (vs := vs) hod)
        have HO := hide hod
        clear hod hvv
        go_enter Try.func38, Try.ntmps38
        go_wp2_with fail
        refine (validSpace_any _ _ _ _ _ S0.2.1 hn).mono ?_
        rintro e w1 ⟨rfl, hb⟩
        have S1 := S0.below hb
        have q1 := q0.below hb
        obtain ⟨⟨_, c0, c1⟩, _⟩ := S1.pair
        go_wp2_with fail
        refine (validVotes_any _ _ _ _ _ _ _ _ S1.2.1 S1.2.2.1 hn hm).mono ?_
        rintro e w2 ⟨rfl, hb2⟩
        have S2 := S1.below hb2
        have q2 := q1.below hb2
        clear S0 S1 hb hb2 c0 c1
        obtain ⟨⟨_, c0, c1⟩, _⟩ := S2.pair
        go_wp2_with fail
        refine (order_was _ _ _ _ _ _ _ _ false q2 h1 h4 ho HO.out).mono ?_
        rintro e w3 ⟨rfl, hb3⟩
        go_wp2
        go_ret
        exact ⟨ret_int HN.out.symm, (S2.below hb3).2.2.2⟩
      · have hod : ordB (m : Int) ls = true := by simpa using hod
        have HN := hide (turnV_yes hvv hod)
        have HO := hide hod
        have HOK := hide (ord_of hod)
        clear hod hvv
        go_enter Try.func38, Try.ntmps38
        go_wp2_with fail
        refine (validSpace_any _ _ _ _ _ S0.2.1 hn).mono ?_
        rintro e w1 ⟨rfl, hb⟩
        have S1 := S0.below hb
        have q1 := q0.below hb
        obtain ⟨⟨_, c0, c1⟩, _⟩ := S1.pair
        go_wp2_with fail
        refine (validVotes_any _ _ _ _ _ _ _ _ S1.2.1 S1.2.2.1 hn hm).mono ?_
        rintro e w2 ⟨rfl, hb2⟩
        have S2 := S1.below hb2
        have q2 := q1.below hb2
        clear S0 S1 hb hb2 c0 c1
        obtain ⟨⟨_, c0, c1⟩, _⟩ := S2.pair
        go_wp2_with fail
        refine (order_was _ _ _ _ _ _ _ _ true q2 h1 h4 ho HO.out).mono ?_
        rintro e w3 ⟨rfl, hb3⟩
        have S3 := S2.below hb3
        have q3 := q2.below hb3
        clear S2 hb3 c0 c1
        obtain ⟨⟨_, c0, c1⟩, _⟩ := S3.pair
        go_wp2_with fail
        refine (inTurn_any _ _ _ _ _ _ _ _ _ _ _ S3.2.1 S3.2.2.1 q3 hn h5 h1 h4 HZ.out HR.out HOK.out).mono ?_
        rintro e w4 ⟨rfl, hb4⟩
        go_wp2
        go_ret
        exact ⟨ret_int HN.out.symm, (S3.below hb4).2.2.2⟩
end Go.Proofs.Ytccemllgglfgkaa
