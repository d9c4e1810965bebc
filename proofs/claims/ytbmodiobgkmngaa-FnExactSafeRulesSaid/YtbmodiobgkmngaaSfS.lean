/- All safe rules in the model. -/
import Derived.Test.YtbmodiobgkmngaaSfG
import Derived.Test.YtbmodiobgkmngaaSfN
import Derived.Test.YtbmodiobgkmngaaRls
namespace Go.Proofs.Ytbmodiobgkmngaa
open Go.RowKit Go.Joins

theorem rl_ne {w : World} {B B' n b len c : Nat} {u : Value} {xs : List Value} {ws : List Int} (h : w.ownsRow B 34 2 u n xs) (ho : Owns w B' (.slice (some ⟨b, 0, none⟩) len c) ws) : u.ownBlock ≠ some b := by
  intro e
  rcases h.2 with ⟨rfl, _⟩ | ⟨g, cap, cur, rfl, _, hh, _⟩
  · cases e
  · have e' : g = b := by simpa [Value.ownBlock] using e
    subst e'
    have ho' : w.ownsRow B' 3 1 (.slice (some ⟨g, 0, none⟩) len c) ws.length (ws.map (Value.int .i64)) := ho
    rcases ho'.2 with ⟨e2, _⟩ | ⟨g2, cap2, cur2, e2, _, hh2, _⟩
    · cases e2
    · cases e2
      rw [hh] at hh2
      simp at hh2
theorem RL.append {w w' : World} {B B' : Nat} {u v v' : Value} {ts us : List RT} (h : RL w B u ts) (h' : RL w B' v us) (hB : B ≤ B') (hown : w'.ownsRow B 34 2 v' (ts.length + us.length) (rflat ts ++ rflat us)) (hg : w.grownBy w' u.ownBlock) : RL w' B v' (ts ++ us) := by
  refine ⟨by rw [rflat_app, List.length_append]; exact hown, fun t ht => ?_⟩
  rcases List.mem_append.1 ht with ht | ht
  · exact own_kept (h.2 t ht) hg fun k hk e => rl_ne h.1 (h.2 t ht) (by rw [hk]; simpa [Value.ownBlock] using e.symm)
  · exact (own_kept (h'.2 t ht) hg fun k hk e => rl_ne h.1 (h'.2 t ht) (by rw [hk]; simpa [Value.ownBlock] using e.symm)).le hB
theorem RL.empty {B : Nat} (w : World) (hb : B ≤ w.heap.size) : RL (w.alloc (.cells #[] 34)) B (.slice (some ⟨w.heap.size, 0, none⟩) 0 0) [] :=
  ⟨⟨rfl, .inr ⟨w.heap.size, 0, #[], rfl, hb, heap_alloc_new w _, Nat.le_refl _, by unfold maxLen; omega, rfl, rfl⟩⟩, fun t ht => by cases ht⟩
theorem RL.one {w : World} {B b c : Nat} {v : Int} {ws : List Int} (h : Owns w B (.slice (some ⟨b, 0, none⟩) ws.length c) ws) (hb : B ≤ w.heap.size) :
    RL (w.alloc (.cells #[.int .i64 v, .slice (some ⟨b, 0, none⟩) ws.length c] 34)) B (.slice (some ⟨w.heap.size, 0, none⟩) 1 1) [(v, ws, b, c)] := by
  refine ⟨World.ownsRow_lit w #[.int .i64 v, .slice (some ⟨b, 0, none⟩) ws.length c] 1 hb (by unfold maxLen; omega) rfl, fun t ht => ?_⟩
  rw [List.mem_singleton] at ht
  subst ht
  exact h.below (bel1 _ _)
theorem RL.cells {w : World} {B g n c : Nat} {ts : List RT} (h : RL w B (.slice (some ⟨g, 0, none⟩) n c) ts) : ∀ j u, (rflat ts)[j]? = some u → w.cell? ((⟨g, 0, none⟩ : Addr).add j) = some u := h.1.cells rfl
theorem genS_len {os : List Int} (S : List Int → Bool) (ho : os.length ≤ 4) : ∀ k ws, (genS os S k ws).length ≤ 4 ^ k
  | 0, ws => by unfold genS; split <;> simp
  | k + 1, ws => by
    rw [genS, List.length_flatMap]
    have h : ∀ l : List Int, (l.map fun o => (genS os S k (ws ++ [o])).length).sum ≤ l.length * 4 ^ k := by
      intro l
      induction l with
      | nil => simp
      | cons o l ih =>
        rw [List.map_cons, List.sum_cons, List.length_cons, Nat.succ_mul]
        have := genS_len S ho k (ws ++ [o])
        omega
    refine Nat.le_trans (h os) ?_
    rw [Nat.pow_succ, Nat.mul_comm]
    exact Nat.mul_le_mul_left _ ho
/-- what is listed for the first options -/
def outS (os : List Int) (S : List Int → Bool) (k : Nat) (hs : List Int) (i : Nat) : List (List Int) := (os.take i).flatMap fun o => genS os S k (hs ++ [o])
theorem outS_zero (os : List Int) (S : List Int → Bool) (k : Nat) (hs : List Int) : outS os S k hs 0 = [] := by unfold outS; simp
theorem outS_succ {os : List Int} (S : List Int → Bool) (k : Nat) (hs : List Int) {i : Nat} (h : i < os.length) : outS os S k hs (i + 1) = outS os S k hs i ++ genS os S k (hs ++ [os[i]]) := by
  unfold outS
  rw [List.take_succ_eq_append_getElem h, List.flatMap_append]
  simp
theorem outS_all (os : List Int) (S : List Int → Bool) (k : Nat) (hs : List Int) : outS os S k hs os.length = genS os S (k + 1) hs := by unfold outS; rw [List.take_length, genS]
theorem outS_len {os : List Int} (S : List Int → Bool) (ho : os.length ≤ 4) (k : Nat) (hs : List Int) {i : Nat} (hi : i ≤ os.length) (hk : k ≤ 3) : (outS os S k hs i).length ≤ 256 := by
  have h : ∀ l : List Int, (l.flatMap fun o => genS os S k (hs ++ [o])).length ≤ l.length * 64 := by
    intro l
    induction l with
    | nil => simp
    | cons o l ih =>
      rw [List.flatMap_cons, List.length_append, List.length_cons, Nat.succ_mul]
      have h1 := genS_len S ho k (hs ++ [o])
      have h2 : 4 ^ k ≤ 4 ^ 3 := Nat.pow_le_pow_right (by omega) hk
      omega
  have := h (os.take i)
  rw [List.length_take] at this
  unfold outS
  omega
/-- rules of one number of voters -/
def withV (v : Int) (L : List (List Int)) : List (Int × List Int) := L.map fun ws => (v, ws)
theorem withV_app (v : Int) (L M : List (List Int)) : withV v (L ++ M) = withV v L ++ withV v M := by unfold withV; rw [List.map_append]
theorem keys_app (ts us : List RT) : keys (ts ++ us) = keys ts ++ keys us := by unfold keys; rw [List.map_append]
theorem keys_len {v : Int} {ts : List RT} {L : List (List Int)} (h : keys ts = withV v L) : ts.length = L.length := by
  simpa [keys, withV] using congrArg List.length h
def FromPost (v : Int) (L : List (List Int)) (w : World) (e : Ending) (w' : World) : Prop :=
  ∃ g cap ts, e = .returned (.slice (some ⟨g, 0, none⟩) ts.length cap) ∧ keys ts = withV v L ∧ RL w' w.heap.size (.slice (some ⟨g, 0, none⟩) ts.length cap) ts ∧ Below w.heap.size w w'
/-- what rulesFrom promises for k more issues -/
def Froms (n : Int) (a : Option Addr) (zs : List Int) (cap : Nat) (v : Int) (lo : Option Addr) (os : List Int) (capo k : Nat) : Prop :=
  ∀ (hs : List Int) (m : Nat) (ad : Addr) (capl : Nat) (w : World), Ints w a zs → Ints w lo os → Ints w (some ad) hs → hs.length = m → m + k = n.toNat → (∀ x ∈ hs, 0 ≤ x ∧ x ≤ 255) →
    Calls Try.prog 32 #[.agg #[.int .i64 n, .slice a zs.length cap], .int .i64 v, .slice lo os.length capo, .slice (some ad) m capl] w (FromPost v (genS os (fun ws => safeK zs ws v.toNat []) k hs) w)
set_option maxHeartbeats 4000000 in
set_option maxRecDepth 100000 in
theorem fromLeaf_any (n v : Int) (a lo : Option Addr) (cap capo : Nat) (zs os : List Int) (hn : 1 ≤ n ∧ n ≤ 4) (hv : 1 ≤ v ∧ v ≤ 2) (hz : ∀ x ∈ zs, 0 ≤ x ∧ x ≤ 255) (hzn : zs.length ≤ 1048576) : Froms n a zs cap v lo os capo 0 := by
  obtain ⟨i0, hi0, hz0, hz1, hz2⟩ := info_parts info_int
  intro hs m ad capl w hi hj hh hm hk hr
  have S0 := SV.new w n a zs cap lo os 25 hi hj
  have hE : ((m : Int) == n) = true := by rw [beq_iff_eq]; omega
  have hm0 : 0 < m := by omega
  have hm4 : m ≤ 4 := by omega
  have HVN : Hid (∀ W : World, Below w.heap.size w W → ∀ j u, (hs.map (Value.int .i64))[j]? = some u → W.cell? (ad.add j) = some u) := fun W hB => news_ints hh hB
  have HONE : Hid (∀ u ∈ hs.map (Value.int .i64), u.oneCell' = true) := fun u hu => by
    obtain ⟨x, _, rfl⟩ := List.mem_map.1 hu
    rfl
  have HM := hide hm
  have HR := hide hr
  have HZ := hide hz
  have HLN := hide (show (hs.length : Int) = n by omega)
  have HS0 := hide S0
  obtain ⟨⟨_, c0, c1⟩, _⟩ := S0.pair
  clear hi hj hh hm hr hz S0 hk
  go_enter Try.func32, Try.ntmps32
  go_wp2_with ((at_builtin; refine wpList_append_own _ rfl _ _ 23 rfl w.heap.size 3 i0 (.int .i64 0) 1 8 Try.underlying23 hi0 hz0 hz1 hz2 rfl (by decide) _ 0 [] rfl (own_emptyS1 w (.cells #[.int .i64 n, .slice a zs.length cap] 25) w.heap.size (Nat.le_refl _)) ad m capl (hs.map (Value.int .i64)) rfl (by have := HM.out; simp; omega) (HVN.out _ (bel2 w _ _)) HONE.out (by unfold maxLen; omega) (by omega) (by simp; omega) ?_))
  intro v5 w5 hown5 hgrow5 _
  obtain ⟨b5, c5, rfl, _, _⟩ := World.ownsRow.form hown5 (by omega)
  have hB5 : Below w.heap.size w w5 := (bel2 w _ _).grown hgrow5 (by simp; omega) (fun q hq => by simp [Value.ownBlock] at hq; omega)
  have ho5 : Owns w5 w.heap.size (.slice (some ⟨b5, 0, none⟩) hs.length c5) hs := by
    have := HM.out
    subst this
    unfold Owns; simpa using hown5
  rw [HM.out] at ho5
  have hb5 : Below (w.alloc (.cells #[.int .i64 n, .slice a zs.length cap] 25)).heap.size (w.alloc (.cells #[.int .i64 n, .slice a zs.length cap] 25)) w5 := (bel1 _ _).grown hgrow5 (by simp) (fun q hq => by simp [Value.ownBlock] at hq; simp; omega)
  have S5 := HS0.out.below hb5
  have HO5 := hide ho5
  have HB5 := hide hB5
  -- the rule in its variable, the empty list of votes behind it
  have B6 := bel1 w5 (.cells #[.int .i64 v, .slice (some ⟨b5, 0, none⟩) m c5] 34)
  have bx6 := Box.new w5 v (some ⟨b5, 0, none⟩) m c5 34
  have S6 := S5.below B6
  have ho6 := ho5.below B6
  have B7 := bel1 (w5.alloc (.cells #[.int .i64 v, .slice (some ⟨b5, 0, none⟩) m c5] 34)) (.cells #[] 3)
  have bx7 := bx6.below B7
  have S7 := S6.below B7
  have ho7 := ho6.below B7
  have HBX7 := hide bx7
  have HS7 := hide S7
  have HO7 := hide ho7
  have HB7 := hide (bnext (bnext hB5 B6) B7)
  obtain ⟨_, d0, d1⟩ := bx6
  obtain ⟨⟨_, c0, c1⟩, _⟩ := S6
  clear hown5 hgrow5 hb5 S5 ho5 hB5 B6 ho6 B7 S7 ho7 HS0 HVN HONE HO5 HB5 bx7
  cases hS : safeK zs hs v.toNat [] with
  | false =>
    have HSF := hide hS
    clear hS
    go_wp2_with fail
    have hcall := safeFrom_any n v a (some ⟨b5, 0, none⟩) cap c5 zs hs hn (by omega) HLN.out HZ.out HR.out hzn v.toNat [] 0 ⟨w5.heap.size + 1, 0, none⟩ 0 _ HS7.out.2.1 HO7.out.ints (fun h => by simp at h) rfl (by simp) (nil_range _)
    rw [HM.out, HSF.out] at hcall
    refine hcall.mono ?_
    rintro e w8 ⟨rfl, b8⟩
    have B8 := hide (bnext HB7.out b8)
    clear hcall b8
    go_wp2
    go_ret
    exact ⟨w8.heap.size, 0, [], rfl, by rw [genS, HSF.out]; rfl, RL.empty w8 (Nat.le_trans (Nat.le_refl _) B8.out.size), bnext B8.out (bel1 _ _)⟩
  | true =>
    have HSF := hide hS
    clear hS
    go_wp2_with fail
    have hcall := safeFrom_any n v a (some ⟨b5, 0, none⟩) cap c5 zs hs hn (by omega) HLN.out HZ.out HR.out hzn v.toNat [] 0 ⟨w5.heap.size + 1, 0, none⟩ 0 _ HS7.out.2.1 HO7.out.ints (fun h => by simp at h) rfl (by simp) (nil_range _)
    rw [HM.out, HSF.out] at hcall
    refine hcall.mono ?_
    rintro e w8 ⟨rfl, b8⟩
    have B8 := hide (bnext HB7.out b8)
    have HO8 := hide (HO7.out.below b8)
    have bx8 := HBX7.out.below b8
    obtain ⟨_, d0', d1'⟩ := bx8
    clear hcall b8 d0 d1 c0 c1
    go_wp2
    go_ret
    have hm := HM.out
    subst hm
    exact ⟨w8.heap.size, 1, [(v, hs, b5, c5)], rfl, by rw [genS, HSF.out]; rfl, RL.one HO8.out B8.out.size, bnext B8.out (bel1 _ _)⟩
set_option maxHeartbeats 8000000 in
set_option maxRecDepth 100000 in
theorem rulesFrom_any (n v : Int) (a lo : Option Addr) (cap capo : Nat) (zs os : List Int) (hn : 1 ≤ n ∧ n ≤ 4) (hv : 1 ≤ v ∧ v ≤ 2) (hz : ∀ x ∈ zs, 0 ≤ x ∧ x ≤ 255) (ho4 : os.length ≤ 4) (hor : ∀ x ∈ os, 0 ≤ x ∧ x ≤ 255) (hzn : zs.length ≤ 1048576) : ∀ k, Froms n a zs cap v lo os capo k
  | 0 => fromLeaf_any n v a lo cap capo zs os hn hv hz hzn
  | k + 1 => by
    have HIH := hide (rulesFrom_any n v a lo cap capo zs os hn hv hz ho4 hor hzn k)
    obtain ⟨i0, hi0, hz0, hz1, hz2⟩ := info_parts info_int
    obtain ⟨r0, hr0, hy0, hy1, hy2⟩ := info_parts info_rule
    intro hs m ad capl w hi hj hh hm hk hr
    have S0 := SV.new w n a zs cap lo os 25 hi hj
    have HOR := hide hor
    have HR0 := hide hr
    have hE : ((m : Int) == n) = false := by rw [beq_eq_false_iff_ne]; omega
    have hm3 : m ≤ 3 := by omega
    have hk3 : k ≤ 3 := by omega
    have HK0 := hide hk
    have HM := hide hm
    have HONE : Hid (∀ u ∈ hs.map (Value.int .i64), u.oneCell' = true) := fun u hu => by
      obtain ⟨x, _, rfl⟩ := List.mem_map.1 hu
      rfl
    have H0 := hide (hh.below (bel1 w (.cells #[.int .i64 n, .slice a zs.length cap] 25)))
    obtain ⟨S, hS⟩ : ∃ S : List Int → Bool, S = fun ws => safeK zs ws v.toNat [] := ⟨_, rfl⟩
    have HIH2 : Hid (∀ (hs : List Int) (m : Nat) (ad : Addr) (capl : Nat) (w : World), Ints w a zs → Ints w lo os → Ints w (some ad) hs → hs.length = m → m + k = n.toNat → (∀ x ∈ hs, 0 ≤ x ∧ x ≤ 255) →
      Calls Try.prog 32 #[.agg #[.int .i64 n, .slice a zs.length cap], .int .i64 v, .slice lo os.length capo, .slice (some ad) m capl] w (FromPost v (genS os S k hs) w)) := by rw [hS]; exact HIH.out
    rw [← hS]
    clear hS HIH
    obtain ⟨⟨_, c0, c1⟩, _⟩ := S0.pair
    have HS0 := hide S0
    obtain ⟨W1, hW1⟩ : ∃ W1 : World, W1 = w.alloc (.cells #[.int .i64 n, .slice a zs.length cap] 25) := ⟨_, rfl⟩
    have hsz1 : W1.heap.size = w.heap.size + 1 := by rw [hW1]; simp
    have HW1 := hide hW1
    have B1 := bel1 (w.alloc (.cells #[.int .i64 n, .slice a zs.length cap] 25)) (.cells #[] 34)
    have rl0 := RL.empty (B := w.heap.size + 1) (w.alloc (.cells #[.int .i64 n, .slice a zs.length cap] 25)) (by simp)
    simp only [World.size_alloc] at rl0
    rw [← hW1] at HS0 H0
    have B1' : Below W1.heap.size W1 ((w.alloc (.cells #[.int .i64 n, .slice a zs.length cap] 25)).alloc (.cells #[] 34)) := by rw [hW1]; exact B1
    clear hi hj hk hz hr hm hh hor S0 B1 hW1
    go_enter Try.func32, Try.ntmps32
    go_wp2_with fail
    go_loopw [10, 11] (fun u i wq => ∃ (j : Nat) (ts : List RT), j ≤ os.length ∧ i = .int .i64 j ∧ keys ts = withV v (outS os S k hs j) ∧ RL wq (w.heap.size + 1) u ts ∧ u ≠ .slice none 0 0 ∧ Below W1.heap.size W1 wq) (fun _ i _ => os.length - (intOf i).toNat)
    case atStart => exact ⟨0, [], Nat.zero_le _, rfl, by rw [outS_zero]; rfl, rl0, (fun e => by cases e), B1'⟩
    case round =>
      clear rl0 B1' c0 c1
      obtain ⟨j, ts, hj, rfl, hkeys, hrl, hnu, hbq⟩ := hrel
      have HNU := hide hnu
      clear hnu
      have hs1 := HS0.out.below hbq
      have hhs := H0.out.below hbq
      have HBQ := hide hbq
      have HKEYS := hide hkeys
      have HRL := hide hrl
      have hlen := keys_len hkeys
      have hol := outS_len S ho4 k hs hj hk3
      have hts : ts.length ≤ 256 := by omega
      have HS1 := hide hs1
      by_cases hlt : j < os.length
      · obtain ⟨bz, oz, rfl, hbl, hc⟩ := hs1.2.2.1 (by omega)
        have hck := hc j hlt
        rw [getD_lt hlt] at hck
        have HKP : Hid (∀ w5 : World, Below wr.heap.size wr w5 → w5.cell? ⟨w.heap.size, 0, none⟩ = some (.int .i64 n) ∧ w5.cell? ⟨w.heap.size, 1, none⟩ = some (.slice a zs.length cap) ∧ w5.cell? ⟨bz, oz + j, none⟩ = some (.int .i64 os[j])) := fun w5 hB => by
          obtain ⟨⟨_, q0, q1⟩, _⟩ := (hs1.below hB).pair
          exact ⟨q0, q1, (hB.cell (p := ⟨bz, oz + j, none⟩) hbl).trans hck⟩
        have HKW : Hid (∀ w5 : World, Below W1.heap.size W1 w5 → w5.cell? ⟨w.heap.size, 0, none⟩ = some (.int .i64 n) ∧ w5.cell? ⟨w.heap.size, 1, none⟩ = some (.slice a zs.length cap) ∧ w5.cell? ⟨bz, oz + j, none⟩ = some (.int .i64 os[j])) := fun w5 hB => by
          obtain ⟨⟨_, q0, q1⟩, _⟩ := (HS0.out.below hB).pair
          obtain ⟨bz', oz', e', _, hc'⟩ := (HS0.out.below hB).2.2.1 (by omega)
          cases e'
          have := hc' j hlt
          rw [getD_lt hlt] at this
          exact ⟨q0, q1, this⟩
        have HVN : Hid (∀ W : World, Below wr.drew.heap.size wr.drew W → ∀ j u, (hs.map (Value.int .i64))[j]? = some u → W.cell? (ad.add j) = some u) := fun W hB => news_ints hhs (bdrew hB)
        have HII : Hid (∀ W : World, Below wr.heap.size wr W → Ints W a zs) := fun W hB => hs1.2.1.below hB
        have HIJ : Hid (∀ W : World, Below wr.heap.size wr W → Ints W (some ⟨bz, oz, none⟩) os) := fun W hB => hs1.2.2.1.below hB
        have HHH : Hid (∀ W : World, Below wr.heap.size wr W → Ints W (some ad) hs) := fun W hB => hhs.below hB
        have HR := hide (mem_pushed (P := fun x => 0 ≤ x ∧ x ≤ 255) HR0.out (HOR.out _ (List.getElem_mem hlt)))
        have HLN : Hid ((hs ++ [os[j]]).length = m + 1) := by have := HM.out; show (hs ++ [os[j]]).length = m + 1; simp; omega
        have HK : Hid (m + 1 + k = n.toNat) := by have := HK0.out; show m + 1 + k = n.toNat; omega
        have hm0 := HM.out
        have hwr : w.heap.size + 1 ≤ wr.heap.size := by have := hbq.size; omega
        obtain ⟨⟨_, c0, c1⟩, _⟩ := hs1.pair
        have HOS := hide (outS_succ S k hs hlt)
        obtain ⟨z, hz⟩ : ∃ z, os[j] = z := ⟨_, rfl⟩
        rw [hz] at hck HKP HKW HR HLN HOS
        have hgl := genS_len S ho4 k (hs ++ [z])
        have h64 : 4 ^ k ≤ 4 ^ 3 := Nat.pow_le_pow_right (by omega) hk3
        clear hs1 hc hz hhs hrl hkeys hlen hol hbq
        go_upto_region 10 with fail
        go_region_held3 (fun w' => w'.cell? ⟨w.heap.size, 0, none⟩ = some (.int .i64 n) ∧ w'.cell? ⟨w.heap.size, 1, none⟩ = some (.slice a zs.length cap) ∧ w'.cell? ⟨bz, oz + j, none⟩ = some (.int .i64 z))
          (first | go_keep | exact HS9.out | exact HS8.out | exact HS7.out | exact HS5.out | exact HKP.out _ (bdrew' (Below.refl _ _)))
          (first
            | (refine step_append_own (by rfl) _ _ 23 (by rfl) wr.heap.size 3 i0 (.int .i64 0) 1 8 Try.underlying23 hi0 hz0 hz1 hz2 rfl (by decide) _ 0 [] (by rfl) (own_emptyS wr.drew wr.heap.size (Nat.le_refl _)) ad m capl (hs.map (Value.int .i64)) (by rfl) (by simp; omega) (HVN.out _ (bel1 _ _)) HONE.out (by unfold maxLen; omega) (by omega) (by simp) ?_; intro v5 w5 hown5 hgrow5 _; have F5 := hide (first5 hm0 (bel1 wr.drew (.cells #[] 3)) hown5 hgrow5 (by simp)); have HS5 := hide (HKP.out w5 F5.out.2); clear hown5 hgrow5)
            | (refine step_append_own (by rfl) _ _ 23 (by rfl) wr.heap.size 3 i0 (.int .i64 0) 1 8 Try.underlying23 hi0 hz0 hz1 hz2 rfl (by decide) _ 0 [] (by rfl) (own_drewS ((own_emptyS wr wr.heap.size (Nat.le_refl _)).alloc (.cells #[.int .i64 z] 3))) ad m capl (hs.map (Value.int .i64)) (by rfl) (by simp; omega) (HVN.out _ (bel_drewS (bel2 wr (.cells #[] 3) (.cells #[.int .i64 z] 3)))) HONE.out (by unfold maxLen; omega) (by omega) (by first | (simp; done) | (simp; omega)) ?_; intro v5 w5 hown5 hgrow5 _; have HLIT := hide (lit_kept2 hgrow5); have F5 := hide (first5 hm0 (bel_drewS (bel2 wr (.cells #[] 3) (.cells #[.int .i64 z] 3))) hown5 hgrow5 (by simp)); have HS5 := hide (HKP.out w5 F5.out.2); clear hown5 hgrow5)
            | (refine step_append_own (by rfl) _ _ 23 (by rfl) wr.heap.size 3 i0 (.int .i64 0) 1 8 Try.underlying23 hi0 hz0 hz1 hz2 rfl (by decide) _ 0 [] (by rfl) (own_drewS (own_emptyS1 wr (.cells #[.int .i64 z] 3) wr.heap.size (Nat.le_refl _))) ad m capl (hs.map (Value.int .i64)) (by rfl) (by simp; omega) (HVN.out _ (bel_drewS (bel2 wr (.cells #[.int .i64 z] 3) (.cells #[] 3)))) HONE.out (by unfold maxLen; omega) (by omega) (by first | (simp; done) | (simp; omega)) ?_; intro v5 w5 hown5 hgrow5 _; have HLIT := hide (lit_kept3 hgrow5); have F5 := hide (first5 hm0 (bel_drewS (bel2 wr (.cells #[.int .i64 z] 3) (.cells #[] 3))) hown5 hgrow5 (by simp)); have HS5 := hide (HKP.out w5 F5.out.2); clear hown5 hgrow5)
            | (refine step_append_own (by rfl) _ _ 23 (by rfl) wr.heap.size 3 i0 (.int .i64 0) 1 8 Try.underlying23 hi0 hz0 hz1 hz2 rfl (by decide) _ m (hs.map (Value.int .i64)) (by rfl) ((owns_row hm0 F5.out.1).alloc _) ⟨w5.heap.size, 0, none⟩ 1 1 [.int .i64 z] (by rfl) (by rfl) (World.news_of_block (cs := #[.int .i64 z]) (t := 3) (fr := (0, 0)) (heap_alloc_new w5 _)) (by simp [Value.oneCell']) (by unfold maxLen; omega) (by omega) (by have := F5.out.2.size; first | omega | (simp; omega)) ?_; intro v7 w7 hown7 hgrow7 _; obtain ⟨gg, cc, rfl, hgb, hgl⟩ := World.ownsRow.form hown7 (by omega); have F7 := hide (last7 hm0 F5.out (bel1 _ _) hown7 hgrow7); have HS7 := hide (HKP.out w7 F7.out.2); clear hown7 hgrow7 hgb hgl)
            | (refine step_append_own (by rfl) _ _ 23 (by rfl) wr.heap.size 3 i0 (.int .i64 0) 1 8 Try.underlying23 hi0 hz0 hz1 hz2 rfl (by decide) _ m (hs.map (Value.int .i64)) (by rfl) (owns_row hm0 F5.out.1) ⟨_, 0, none⟩ 1 1 [.int .i64 z] (by rfl) (by rfl) (World.news_of_block (cs := #[.int .i64 z]) (t := 3) (fr := (0, 0)) (HLIT.out)) (by simp [Value.oneCell']) (by unfold maxLen; omega) (by omega) (by have := F5.out.2.size; first | omega | (simp; omega)) ?_; intro v7 w7 hown7 hgrow7 _; obtain ⟨gg, cc, rfl, hgb, hgl⟩ := World.ownsRow.form hown7 (by omega); have F7 := hide (last7 hm0 F5.out (Below.refl _ _) hown7 hgrow7); have HS7 := hide (HKP.out w7 F7.out.2); clear hown7 hgrow7 hgb hgl)
            | (go_at_call 32; refine (HIH2.out (hs ++ [z]) (m + 1) ⟨gg, 0, none⟩ cc w7 (HII.out w7 F7.out.2) (HIJ.out w7 F7.out.2) F7.out.1.ints HLN.out HK.out HR.out).mono ?_; rintro e w8 ⟨g8, c8, us, rfl, hk8, rl8, b8⟩; have hul : us.length ≤ 64 := (by have := keys_len hk8; omega); have B8 := hide (bnext F7.out.2 b8); have HS8 := hide (HKP.out w8 B8.out); have RL8 := hide rl8; have HK8 := hide hk8; have RLo := hide (HRL.out.below B8.out); have HW7 := hide (Nat.le_trans hwr F7.out.2.size); clear b8 rl8 hk8)
            | (refine step_append_own (by rfl) _ _ 28 (by rfl) (w.heap.size + 1) 34 r0 (.agg #[.int .i64 0, .slice none 0 0]) 2 32 Try.underlying28 hr0 hy0 hy1 hy2 rfl (by decide) _ ts.length (rflat ts) (by rfl) RLo.out.1 ⟨g8, 0, none⟩ us.length c8 (rflat us) (by rfl) (rflat_len us) RL8.out.cells (rflat_one us) (by unfold maxLen; omega) (by omega) (by have := B8.out.size; omega) ?_; intro v9 w9 hown9 hgrow9 hnn9; have HN9 : Hid (v9 ≠ .slice none 0 0) := fun e => HNU.out (hnn9.1 e).1; have RL9 := hide (RLo.out.append RL8.out HW7.out hown9 hgrow9); have B9 := hide ((bnext HBQ.out B8.out).grown hgrow9 (bnext HBQ.out B8.out).size (fun q hq => (by have := (RLo.out.1.lt q hq).1; omega))); have HS9 := hide (HKW.out w9 B9.out); clear hown9 hgrow9 hnn9))
        all_goals
          go_wp2
          go_roundw
          case rel => exact ⟨j + 1, ts ++ us, by omega, by go_num, by rw [keys_app, HKEYS.out, HK8.out, HOS.out, withV_app], RL9.out, HN9.out, B9.out⟩
          case measure => simp only [intOf]; omega
      · obtain rfl : j = os.length := by omega
        have e10 : ∃ gu cu, u10 = .slice (some ⟨gu, 0, none⟩) ts.length cu := by
          rcases ownsRow_forms hrl.1 with ⟨e, _⟩ | ⟨g, cap, e⟩
          · exact absurd e HNU.out
          · exact ⟨g, cap, e⟩
        obtain ⟨gu, cu, e10⟩ := e10
        obtain ⟨⟨_, c0, c1⟩, _⟩ := hs1.pair
        subst e10
        go_wp2
        go_ret
        exact ⟨gu, cu, ts, rfl, by rw [HKEYS.out, outS_all], HRL.out.le (by omega), (HW1.out ▸ bel1 w _ : Below w.heap.size w W1).trans (HBQ.out.mono (by omega))⟩
end Go.Proofs.Ytbmodiobgkmngaa
