/- The program's list of all parts, in order. -/
import Derived.Test.YtbnnblfgpdfmpaaCrM
import Derived.Test.YtbnnblfgpdfmpaaOwnP
import Derived.Test.YtbnnblfgpdfmpaaCrS
namespace Go.Proofs.Ytbnnblfgpdfmpaa
open Go.RowKit Go.Joins

def or0 (n s : Nat) : List (Nat × Nat) := (List.range s).flatMap (ordS n)
def or1 (n s c : Nat) : List (Nat × Nat) := or0 n s ++ (List.range c).flatMap (ordC s)
def or2 (n s c b : Nat) : List (Nat × Nat) := or1 n s c ++ ((List.range b).filter fun b => b &&& c == b).map fun b => (c, b)
theorem or1_zero (n s : Nat) : or1 n s 0 = or0 n s := by simp [or1]
theorem or2_zero (n s c : Nat) : or2 n s c 0 = or1 n s c := by simp [or2]
theorem or1_end (n s : Nat) : or1 n s (2 ^ n) = or0 n (s + 1) := by
  unfold or1 or0
  rw [List.range_succ, List.flatMap_append]
  simp [ordS]
theorem or0_end (n : Nat) : or0 n (n + 1) = ordL n := rfl
theorem or2_end {n s c : Nat} (h : wt c = s) : or2 n s c (c + 1) = or1 n s (c + 1) := by
  unfold or2 or1
  rw [List.range_succ (n := c), List.flatMap_append, List.append_assoc]
  simp only [List.flatMap_cons, List.flatMap_nil, List.append_nil, ordC, if_pos h, List.range_succ (n := c)]
theorem or1_skip {n s c : Nat} (h : wt c ≠ s) : or1 n s (c + 1) = or1 n s c := by
  unfold or1
  rw [List.range_succ (n := c), List.flatMap_append]
  simp [ordC, if_neg h]
theorem or2_yes {n s c b : Nat} (h : (b &&& c == b) = true) : or2 n s c (b + 1) = or2 n s c b ++ [(c, b)] := by
  unfold or2
  rw [List.range_succ, List.filter_append, List.map_append, List.append_assoc]
  congr 2
  simp only [List.filter_cons, h, if_true, List.filter_nil, List.map_cons, List.map_nil]
theorem or2_off {n s c b : Nat} (h : (b &&& c == b) = false) : or2 n s c (b + 1) = or2 n s c b := by
  unfold or2
  rw [List.range_succ, List.filter_append, List.map_append]
  simp [h]
/-- the list under way -/
def PO (w : World) (v : Value) (l : List (Nat × Nat)) (K : Nat) (wq : World) : Prop := OwnsP wq w.heap.size v (ofP l) ∧ l.length ≤ K ∧ Below w.heap.size w wq
theorem PO.to {w : World} {v : Value} {l l' : List (Nat × Nat)} {K K' : Nat} {wq : World} (h : PO w v l K wq) (e : l' = l) (hk : K ≤ K') : PO w v l' K' wq := by
  subst e
  exact ⟨h.1, Nat.le_trans h.2.1 hk, h.2.2⟩
theorem PO.push {w : World} {v v' : Value} {l : List (Nat × Nat)} {K c b : Nat} {wq w5 : World} (h : PO w v l K wq) (o : Obj) (hg : (wq.alloc o).grownBy w5 v.ownBlock)
    (ho : w5.ownsRow w.heap.size 60 2 v' ((ofP l).length + 1) (pflat (ofP l) ++ [.int .i64 (c : Int), .int .i64 (b : Int)])) : PO w v' (l ++ [(c, b)]) (K + 1) w5 := by
  have hp' : wq.ownsRow w.heap.size 60 2 v (ofP l).length (pflat (ofP l)) := h.1
  have hge : ∀ k, v.ownBlock = some k → w.heap.size ≤ k := fun k hk => (World.ownsRow.lt hp' k hk).1
  have e : ofP (l ++ [(c, b)]) = ofP l ++ [((c : Int), (b : Int))] := by simp [ofP]
  have hB := bnext h.2.2 (bel1 wq o)
  exact ⟨by rw [e]; exact OwnsP.push ho, by rw [List.length_append]; have := h.2.1; simpa using this, bgrown hB hg hB.size hge⟩
theorem ones_was (x s : Nat) (w : World) (hx : x < 16) (h : wt x = s) : Calls Try.prog 68 #[.int .u64 x] w fun e w' => e = .returned (.int .i64 (s : Nat)) ∧ w = w' := by
  subst h
  exact onesCount_any x w hx
set_option maxHeartbeats 8000000 in
set_option maxRecDepth 100000 in
theorem partsInOrder_any (N : Nat) (w : World) (hn : 1 ≤ N ∧ N ≤ 4) :
    Calls Try.prog 53 #[.int .i64 (N : Int)] w fun e w' => ∃ v, e = .returned v ∧ OwnsP w' w.heap.size v (ofP (ordL N)) ∧ Below w.heap.size w w' := by
  obtain ⟨j0, hj0, hy0, hy1, hy2⟩ := info_parts info_part
  have p2 : 2 ^ N ≤ 16 := Nat.pow_le_pow_right (n := 2) (by omega) hn.2
  have e : ((2 : Int) ^ N) = ((2 ^ N : Nat) : Int) := by rw [Int.natCast_pow]; rfl
  obtain ⟨Q, hQ⟩ : ∃ Q, Q = 2 ^ N := ⟨_, rfl⟩
  rw [← hQ] at p2 e
  have hsh : wrap64 ((2 : Int) ^ N) = (Q : Int) := by
    rw [e]
    unfold wrap64
    omega
  have HQ := hide hQ
  have P0 : PO w (.slice none 0 0) [] 0 w := ⟨World.ownsRow_nil _ _ _ _, Nat.le_refl _, Below.refl _ _⟩
  clear hQ e
  go_enter Try.func53, Try.ntmps53
  go_wp2_with fail
  go_loopw [3, 9] (fun v i wq => ∃ s : Nat, s ≤ N + 1 ∧ i = .int .i64 s ∧ PO w v (or0 N s) (s * 256) wq) (fun _ i _ => N + 1 - (intOf i).toNat)
  case atStart => exact ⟨0, Nat.zero_le _, rfl, P0.to rfl (Nat.zero_le _)⟩
  case round =>
    clear P0
    obtain ⟨s, hs, rfl, hc⟩ := hrel
    obtain ⟨va, vc, rfl, _⟩ := hc.1.form
    by_cases hlt : (s : Int) < (N : Int) + 1
    · have HC := hide (hc.to (or1_zero N s) (Nat.le_refl _))
      clear hc
      go_wp2_with fail
      simp only [hsh]
      go_loopw [3, 14] (fun v i wq => ∃ c : Nat, c ≤ Q ∧ i = .int .i64 c ∧ PO w v (or1 N s c) (s * 256 + c * 16) wq) (fun _ i _ => Q - (intOf i).toNat)
      case atStart => exact ⟨0, Nat.zero_le _, rfl, HC.out⟩
      case round =>
        clear HC
        obtain ⟨c, hcq, rfl, hc⟩ := hrel
        obtain ⟨va, vc, rfl, _⟩ := hc.1.form
        by_cases hlc : c < Q
        · by_cases hw : wt c = s
          · have HC := hide (hc.to (or2_zero N s c) (Nat.le_refl _))
            have HW := hide hw
            have hss : ((s : Int) != (s : Int)) = false := by simp
            clear hc hw
            go_wp2_with (go_at_call 68; refine (ones_was c s _ (by omega) HW.out).mono ?_; rintro e w' ⟨rfl, rfl⟩)
            go_loopw [3, 24] (fun v i wq => ∃ b : Nat, b ≤ c + 1 ∧ i = .int .i64 b ∧ PO w v (or2 N s c b) (s * 256 + c * 16 + b) wq) (fun _ i _ => c + 1 - (intOf i).toNat)
            case atStart => exact ⟨0, Nat.zero_le _, rfl, HC.out⟩
            case round =>
              clear HC
              obtain ⟨b, hb, rfl, hc⟩ := hrel
              obtain ⟨va, vc, rfl, _⟩ := hc.1.form
              have HC := hide hc
              by_cases hbc : (b : Int) < (c : Int) + 1
              · have hz := andNot_zero (b : Int) c (by simp [Lit.wf, IntKind.min, IntKind.max, IntKind.bits, IntKind.signed]; omega) (by omega)
                rw [Int.toNat_natCast] at hz
                cases he : (b &&& c == b) with
                | true =>
                  have hand : (bits .andNot .i64 (b : Int) (c : Int) == 0) = true := by
                    rw [beq_iff_eq]
                    exact hz.2 ⟨by omega, by simpa using he⟩
                  have hop := hc.1
                  have hws := hc.2.2.size
                  have hl2 := hc.2.1
                  have hol : (ofP (or2 N s c b)).length ≤ s * 256 + c * 16 + b := by unfold ofP; rw [List.length_map]; exact hl2
                  have HE := hide he
                  clear hz he hc
                  go_wp2_with ((at_builtin; refine wpList_append_own _ rfl _ _ 37 rfl w.heap.size 60 j0 (.agg #[.int .i64 0, .int .i64 0]) 2 16 Try.underlying37 hj0 hy0 hy1 hy2 rfl (by decide) _ _ _ rfl (hop.alloc _) ⟨wr.heap.size, 0, none⟩ 1 1 [.int .i64 (c : Int), .int .i64 (b : Int)] rfl rfl (World.news_of_block (cs := #[.int .i64 (c : Int), .int .i64 (b : Int)]) (t := 60) (fr := (0, 0)) (heap_alloc_new wr _)) (by intro u hu; simp at hu; rcases hu with rfl | rfl <;> rfl) (by unfold maxLen; omega) (by omega) (by first | omega | (simp; omega)) ?_))
                  intro v' w6 hown' hgrow _
                  have V6 := HC.out.push (.cells #[.int .i64 (c : Int), .int .i64 (b : Int)] 60) hgrow hown'
                  rw [← or2_yes HE.out] at V6
                  obtain ⟨qa, qc, rfl, _⟩ := V6.1.form
                  have HV6 := hide V6
                  clear hop hown' hgrow V6
                  go_wp2
                  go_roundw
                  case rel => exact ⟨b + 1, by omega, by go_num, HV6.out⟩
                  case measure => simp only [intOf]; omega
                | false =>
                  have hand : (bits .andNot .i64 (b : Int) (c : Int) == 0) = false := by
                    rw [beq_eq_false_iff_ne]
                    intro h0
                    have := (hz.1 h0).2
                    rw [beq_eq_false_iff_ne] at he
                    exact he this
                  have HE := hide he
                  clear hz he hc
                  go_wp2
                  go_roundw
                  case rel => exact ⟨b + 1, by omega, by go_num, HC.out.to (or2_off HE.out) (by omega)⟩
                  case measure => simp only [intOf]; omega
              · obtain rfl : b = c + 1 := by omega
                clear hc
                go_wp2
                go_roundw
                case rel => exact ⟨c + 1, by omega, by go_num, HC.out.to (or2_end HW.out).symm (by omega)⟩
                case measure => simp only [intOf]; omega
          · have HC := hide (hc.to (or1_skip (n := N) hw) (Nat.le_refl _))
            obtain ⟨wc, hwc⟩ : ∃ wc, wt c = wc := ⟨_, rfl⟩
            have HWC := hide hwc
            have hss : ((wc : Int) != (s : Int)) = true := by rw [bne_iff_ne]; omega
            clear hc hw hwc
            go_wp2_with (go_at_call 68; refine (ones_was c wc _ (by omega) HWC.out).mono ?_; rintro e w' ⟨rfl, rfl⟩)
            go_roundw
            case rel => exact ⟨c + 1, by omega, by go_num, HC.out.to rfl (by omega)⟩
            case measure => simp only [intOf]; omega
        · obtain rfl : c = Q := by omega
          have HC := hide (hc.to (l' := or0 N (s + 1)) (K' := (s + 1) * 256) (by rw [HQ.out]; exact (or1_end N s).symm) (by omega))
          clear hc
          go_wp2
          go_roundw
          case rel => exact ⟨s + 1, by omega, by go_num, HC.out⟩
          case measure => simp only [intOf]; omega
    · obtain rfl : s = N + 1 := by omega
      have HC := hide hc
      clear hc
      go_wp2
      go_ret
      exact ⟨_, rfl, HC.out.1, HC.out.2.2⟩
end Go.Proofs.Ytbnnblfgpdfmpaa
