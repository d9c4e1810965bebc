/- Texts of this seat one behind the other: RankI, RankC. Conditions: none. -/
import Derived.Test.YtgebplpbnaeckaaGreatDoorMg21
import Derived.Laws.EntriesVeiled
import Derived.Deep.RegionWith
import Derived.Deep.RegionHeld3

/- RankI: clearestFirst of the program. -/
namespace Go.Proofs.YtgebplpbnaeckaaGreatDoor
open Go.RowKit Go.Joins

theorem leadV_le {n : Int} {ss : List Int} (hs : ∀ x ∈ ss, 0 ≤ x ∧ x ≤ n) (j : Int) (hj : j.toNat < ss.length) : 0 ≤ leadV n ss j ∧ leadV n ss j ≤ n := by
  have h := hs _ (mem_of_at hj)
  unfold leadV
  rw [getD_lt hj]
  omega
set_option maxHeartbeats 2000000 in
set_option maxRecDepth 100000 in
theorem cmp_any (n : Int) (ss : List Int) (a : Option Addr) (cap B2 B3 B7 i j : Nat) (w : World) (hi' : i < ss.length) (hj : j < ss.length) (hn : 0 ≤ n ∧ n ≤ 5) (hs : ∀ x ∈ ss, 0 ≤ x ∧ x ≤ n) (hi : Ints w a ss) (h2 : w.cell? ⟨B2, 0, none⟩ = some (.slice a ss.length cap)) (h3 : w.cell? ⟨B3, 0, none⟩ = some (.int .i64 n))
    (h7 : w.cell? ⟨B7, 0, none⟩ = some (.func (.func 142) #[] #[.pointer (some ⟨B2, 0, none⟩), .pointer (some ⟨B3, 0, none⟩)])) :
    Calls Tryz.prog 144 #[.int .i64 (i : Int), .int .i64 (j : Int), .pointer (some ⟨B7, 0, none⟩)] w fun e w' => e = .returned (.int .i64 (leadV n ss (j : Int) - leadV n ss (i : Int))) ∧ ∃ m, w' = w.drewN m := by
  have li := leadV_le hs (i : Int) (by rw [Int.toNat_natCast]; exact hi')
  have lj := leadV_le hs (j : Int) (by rw [Int.toNat_natCast]; exact hj)
  have hs5 : ∀ x ∈ ss, 0 ≤ x ∧ x ≤ 5 := fun x hx => by have := hs x hx; omega
  have HI := hide (fun q : Nat => lead_any n ss a cap B2 B3 i (w.drewN q) hi' hn hs5 (hi.below (belN _ _)) h2 h3)
  have HJ := hide (fun q : Nat => lead_any n ss a cap B2 B3 j (w.drewN q) hj hn hs5 (hi.below (belN _ _)) h2 h3)
  obtain ⟨x, hx⟩ : ∃ x, leadV n ss (i : Int) = x := ⟨_, rfl⟩
  obtain ⟨y, hy⟩ : ∃ y, leadV n ss (j : Int) = y := ⟨_, rfl⟩
  rw [hx] at HI li ⊢
  rw [hy] at HJ lj ⊢
  have hw : IntKind.i64.wrap (y - x) = y - x := IntWalk.i64_in _ (by omega)
  clear hx hy hs hs5 hi
  go_enter Tryz.func144, Tryz.ntmps144
  go_wp2
  go_quiet (first
    | (go_at_call_of 142 (Value.int .i64 (j : Int)); exact quiet_add (HJ.out _))
    | (go_at_call_of 142 (Value.int .i64 (i : Int)); exact quiet_add (HI.out _)))
  go_wp2
  go_ret
  exact ⟨rfl, ⟨_, rfl⟩⟩

set_option maxHeartbeats 4000000 in
theorem stable_any (f : Int → Int) (g cap B : Nat) (l : List Int) (w : World) (hb : w.heap[g]? = some (.cells (l.map (Value.int .i64)).toArray 3 (0, 0))) (hl : l.length ≤ 4) (hpos : 0 < l.length)
    (hf : ∀ (x y : Int) (w' : World), x ∈ l → y ∈ l → w.grownBy w' (some g) → Calls Tryz.prog 144 #[.int .i64 x, .int .i64 y, .pointer (some ⟨B, 0, none⟩)] w' fun e w'' => e = .returned (.int .i64 (f y - f x)) ∧ ∃ m, w'' = w'.drewN m)
    (hbd : ∀ x ∈ l, 0 ≤ f x ∧ f x ≤ 16) :
    Calls Tryz.prog 143 #[.slice (some ⟨g, 0, none⟩) l.length cap, .func (.func 144) #[] #[.pointer (some ⟨B, 0, none⟩)]] w
      fun e w' => e = .returned (.tuple #[]) ∧ w'.heap[g]? = some (.cells ((insK f l (l.length - 1)).map (Value.int .i64)).toArray 3 (0, 0)) ∧ w.grownBy w' (some g) := by
  have H1 : Calls Tryz.prog 167 #[.slice (some ⟨g, 0, none⟩) l.length cap, .int .i64 (l.length : Nat), .func (.func 144) #[] #[.pointer (some ⟨B, 0, none⟩)]] w
      fun e w' => e = .returned (.tuple #[]) ∧ w'.heap[g]? = some (.cells ((insK f l (l.length - 1)).map (Value.int .i64)).toArray 3 (0, 0)) ∧ w.grownBy w' (some g) := by
    have HX := hide (insertion_any f g cap B l w hb hl hpos hf hbd)
    clear hf hbd hb
    go_enter Tryz.func167, Tryz.ntmps167
    go_wp2_with fail
    go_loopw [7, 8] (fun x y wr => x = .int .i64 0 ∧ y = .int .i64 20 ∧ wr = w) (fun _ _ _ => 0)
    case atStart => exact ⟨rfl, rfl, rfl⟩
    case round =>
      obtain ⟨rfl, rfl, rfl⟩ := hrel
      go_wp2_with fail
      refine HX.out.mono ?_
      rintro e w1 ⟨rfl, hb1, hg1⟩
      have HB := hide hb1
      have HG := hide hg1
      clear hb1 hg1
      go_wp2
      go_loopw [6] (fun x wr => x = .int .i64 20 ∧ wr = w1) (fun _ _ => 0)
      case atStart => exact ⟨rfl, rfl⟩
      case round =>
        obtain ⟨rfl, rfl⟩ := hrel
        go_wp2
        go_end0
        exact ⟨rfl, HB.out, HG.out⟩
  have HX := hide H1
  clear H1 hf hbd hb
  go_enter Tryz.func143, Tryz.ntmps143
  go_wp2_with fail
  refine HX.out.mono ?_
  rintro e w1 ⟨rfl, hb1, hg1⟩
  have HB := hide hb1
  have HG := hide hg1
  clear hb1 hg1
  go_wp2
  go_end0
  exact ⟨rfl, HB.out, HG.out⟩
end Go.Proofs.YtgebplpbnaeckaaGreatDoor

/- RankC: The program's order of the issues, the clearest first. -/
namespace Go.Proofs.YtgebplpbnaeckaaGreatDoor
open Go.RowKit Go.Joins

theorem own_whole {w : World} {base g n : Nat} {zs : List Int} (h : w.ownsRow base 3 1 (.slice (some ⟨g, 0, none⟩) n n) n (zs.map (Value.int .i64))) : w.heap[g]? = some (.cells (zs.map (Value.int .i64)).toArray 3 (0, 0)) := by
  rcases h.2 with ⟨h0, _⟩ | ⟨g', cap', cur, hv, _, hb, _, _, hs, ht⟩
  · cases h0
  · cases hv
    rw [hb]
    have e : cur = (zs.map (Value.int .i64)).toArray := by
      apply Array.ext'
      rw [List.toList_toArray, ← ht]
      rw [List.take_of_length_le]
      simp [hs]
    rw [e]
theorem own_back {w : World} {base g n : Nat} {zs : List Int} (hg : w.heap[g]? = some (.cells (zs.map (Value.int .i64)).toArray 3 (0, 0))) (hl : zs.length = n) (hb : base ≤ g) (hm : n ≤ maxLen) : Owns w base (.slice (some ⟨g, 0, none⟩) n n) zs := by
  refine ⟨by simp, .inr ⟨g, n, _, by rw [hl], hb, hg, by omega, hm, by simp [hl], by rw [List.take_of_length_le (by simp)]⟩⟩
/-- the numbers below m, and of them the first k laid, zeros behind -/
def upto (m : Nat) : List Int := (List.range m).map fun t : Nat => (t : Int)
def uptoK (m k : Nat) : List Int := (List.range m).map fun t : Nat => if t < k then (t : Int) else 0
theorem upto_len (m : Nat) : (upto m).length = m := by simp [upto]
theorem uptoK_len (m k : Nat) : (uptoK m k).length = m := by simp [uptoK]
theorem uptoK_zero (m : Nat) : uptoK m 0 = List.replicate m 0 := by
  unfold uptoK
  rw [List.eq_replicate_iff]
  refine ⟨by simp, fun b hb => ?_⟩
  simp at hb
  exact hb.2.symm
theorem uptoK_all (m : Nat) : uptoK m m = upto m := by
  unfold uptoK upto
  exact List.map_congr_left fun t ht => if_pos (by simpa using ht)
theorem uptoK_set (m k : Nat) (h : k < m) : (uptoK m k).set k (k : Int) = uptoK m (k + 1) := by
  refine ints_ext (by simp [uptoK]) fun t ht => ?_
  have ht' : t < m := by simpa [uptoK] using ht
  rw [List.getD_eq_getElem?_getD, List.getD_eq_getElem?_getD]
  by_cases e : k = t
  · subst e
    rw [List.getElem?_set_self (by rw [uptoK_len]; exact h)]
    simp [uptoK, ht']
  · rw [List.getElem?_set_ne e]
    simp only [uptoK, List.getElem?_map, List.getElem?_range ht', Option.map_some, Option.getD_some]
    by_cases h1 : t < k
    · rw [if_pos h1, if_pos (by omega)]
    · rw [if_neg h1, if_neg (by omega)]
theorem upto_mem {m : Nat} {x : Int} (h : x ∈ upto m) : ∃ i : Nat, x = (i : Int) ∧ i < m := by
  simp [upto] at h
  obtain ⟨i, hi, rfl⟩ := h
  exact ⟨i, rfl, hi⟩
/-- the issues, the clearest first -/
def clearL (n : Int) (ss : List Int) : List Int := insK (leadV n ss) (upto ss.length) (ss.length - 1)
theorem clearL_len (n : Int) (ss : List Int) : (clearL n ss).length = ss.length := by unfold clearL; rw [insK_len, upto_len]

set_option maxHeartbeats 4000000 in
set_option maxRecDepth 100000 in
theorem clearestFirst_any (n : Int) (a : Option Addr) (cap : Nat) (ss : List Int) (w : World) (hi : Ints w a ss) (h1 : 0 < ss.length) (h4 : ss.length ≤ 4) (hn : 0 ≤ n ∧ n ≤ 5) (hs : ∀ x ∈ ss, 0 ≤ x ∧ x ≤ n) :
    Calls Tryz.prog 112 #[.slice a ss.length cap, .int .i64 n] w (Gives (clearL n ss) w) := by
  obtain ⟨i0, hi0, hz0, hz1, hz2⟩ := info_parts info_int
  obtain ⟨m, hm⟩ : ∃ m, ss.length = m := ⟨_, rfl⟩
  have HI : Hid (∀ (wr : World) (B7 i j : Nat), Below (w.heap.size + 2) ((w.alloc (.cells #[.slice a ss.length cap] 35)).alloc (.cells #[.int .i64 n] 3)) wr → i < ss.length → j < ss.length → wr.cell? ⟨B7, 0, none⟩ = some (.func (.func 142) #[] #[.pointer (some ⟨w.heap.size, 0, none⟩), .pointer (some ⟨w.heap.size + 1, 0, none⟩)]) → Calls Tryz.prog 144 #[.int .i64 (i : Int), .int .i64 (j : Int), .pointer (some ⟨B7, 0, none⟩)] wr fun e w' => e = .returned (.int .i64 (leadV n ss (j : Int) - leadV n ss (i : Int))) ∧ ∃ m, w' = wr.drewN m) := by
    intro wr B7 i j hb hi' hj h7
    have k0 : ((w.alloc (.cells #[.slice a ss.length cap] 35)).alloc (.cells #[.int .i64 n] 3)).heap[w.heap.size]? = some (.cells #[.slice a ss.length cap] 35 (0, 0)) := by
      rw [(bel1 (w.alloc (.cells #[.slice a ss.length cap] 35)) (.cells #[.int .i64 n] 3)).block _ (lt_of_block (heap_alloc_new _ _))]
      exact heap_alloc_new _ _
    have k1 : ((w.alloc (.cells #[.slice a ss.length cap] 35)).alloc (.cells #[.int .i64 n] 3)).heap[w.heap.size + 1]? = some (.cells #[.int .i64 n] 3 (0, 0)) := by
      have := heap_alloc_new (w.alloc (.cells #[.slice a ss.length cap] 35)) (.cells #[.int .i64 n] 3)
      rwa [show (w.alloc (.cells #[.slice a ss.length cap] 35)).heap.size = w.heap.size + 1 from by simp] at this
    have e0 := (hb.block _ (by omega)).trans k0
    have e1 := (hb.block _ (by omega)).trans k1
    have ii : Ints wr a ss := by
      have b2 := bnext (bel1 w (.cells #[.slice a ss.length cap] 35)) (bel1 _ (.cells #[.int .i64 n] 3))
      exact (hi.below b2).below ⟨hb.os, hb.tape, hb.output, hb.size, fun k hk => hb.block k (by rw [show ((w.alloc (.cells #[.slice a ss.length cap] 35)).alloc (.cells #[.int .i64 n] 3)).heap.size = w.heap.size + 2 from by simp] at hk; exact hk)⟩
    exact cmp_any n ss a cap _ _ B7 i j wr hi' hj hn hs ii (cell_of_block e0 0) (cell_of_block e1 0) h7
  have HB : Hid (∀ x ∈ upto ss.length, 0 ≤ leadV n ss x ∧ leadV n ss x ≤ 16) := by
    intro x hx
    obtain ⟨i, rfl, hi'⟩ := upto_mem hx
    have := leadV_le hs (i : Int) (by rw [Int.toNat_natCast]; exact hi')
    omega
  have HW := hide (bnext (bel1 w (.cells #[.slice a ss.length cap] 35)) (bel1 _ (.cells #[.int .i64 n] 3)))
  have HC : Hid ((w.alloc (.cells #[.slice a ss.length cap] 35)).cell? ⟨w.heap.size, 0, none⟩ = some (.slice a ss.length cap)) := cell_of_block (heap_alloc_new _ _) 0
  have HL : Hid (clearL n ss = insK (leadV n ss) (upto ss.length) (ss.length - 1)) := rfl
  obtain ⟨L, hL⟩ : ∃ L, clearL n ss = L := ⟨_, rfl⟩
  obtain ⟨f, hf⟩ : ∃ f, leadV n ss = f := ⟨_, rfl⟩
  rw [hL, hf] at HL
  rw [hL]
  rw [hf] at HI HB
  rw [hm] at HI HB HW HC HL ⊢
  clear hL hf hi hs
  obtain ⟨c1, hc1⟩ : ∃ c1, w.alloc (.cells #[.slice a m cap] 35) = c1 := ⟨_, rfl⟩
  obtain ⟨wo, hwo⟩ : ∃ wo, c1.alloc (.cells #[.int .i64 n] 3) = wo := ⟨_, rfl⟩
  have hsz : wo.heap.size = w.heap.size + 2 := by rw [← hwo, ← hc1]; simp
  have hsz1 : c1.heap.size = w.heap.size + 1 := by rw [← hc1]; simp
  have hx : wo.cell? ⟨w.heap.size, 0, none⟩ = some (.slice a m cap) := by
    rw [← hwo, ← hc1]
    exact cell_of_block ((bel1 (w.alloc (.cells #[.slice a m cap] 35)) (.cells #[.int .i64 n] 3)).block _ (lt_of_block (heap_alloc_new _ _)) |>.trans (heap_alloc_new _ _)) 0
  rw [hc1, hwo] at HI HW
  obtain ⟨g, hg⟩ : ∃ g, wo.heap.size = g := ⟨_, rfl⟩
  have HSZ : Hid (g = w.heap.size + 2) := hg.symm.trans hsz
  clear HC hsz
  go_enter Tryz.func112, Tryz.ntmps112
  go_wp2_with (at_make; refine wpList_make_full _ rfl _ _ 35 rfl g 3 i0 (.int .i64 0) 1 Tryz.underlying35 hi0 hz0 hz1 _ _ _ _ m rfl rfl (by omega) (by omega) ?b2 ?b3 (Nat.le_of_eq hg.symm) ?_)
  case b2 => rw [hz2]; omega
  case b3 => unfold maxLen; omega
  intro w0 hown0 hgrow0
  rw [madeInts] at hown0
  have hb0 : Below wo.heap.size wo w0 := (Below.refl _ _).grown hgrow0 (Nat.le_refl _) (fun k h => by cases h)
  clear hgrow0
  try rw [hg] at hown0
  rw [hg] at hb0
  go_wp2
  clear hc1 hwo hx
  go_loopw [13] (fun i wr => ∃ k : Nat, k ≤ m ∧ i = .int .i64 k ∧ wr.ownsRow g 3 1 (.slice (some ⟨g, 0, none⟩) m m) m ((uptoK m k).map (Value.int .i64)) ∧ Below g wo wr) (fun i _ => m - (intOf i).toNat)
  case atStart => exact ⟨0, Nat.zero_le _, rfl, by rw [uptoK_zero]; exact hown0, hb0⟩
  case round =>
    clear hown0 hb0
    obtain ⟨k, hk, rfl, hown, BR⟩ := hrel
    by_cases hlt : k < m
    · have hfz := hown.frozenAt k
      have hst := hown.cellAt k (by omega)
      rw [List.getElem?_map, List.getElem?_eq_getElem (by rw [uptoK_len]; exact hlt), Option.map_some] at hst
      have HM := hide (uptoK_set m k hlt)
      go_wp2
      go_roundw
      case rel => exact ⟨k + 1, by omega, by go_num, by rw [← HM.out, List.map_set]; exact (hown.stored k _).1, BR.setCell (p := ⟨g, k, none⟩) (Nat.le_refl _) _⟩
      case measure => simp [intOf]; omega
    · obtain rfl : k = m := by omega
      rw [uptoK_all] at hown
      have hgl := lt_of_block (own_whole hown)
      have hK := ((bel1 wr (.cells #[.func (.func 142) #[] #[.pointer (some ⟨w.heap.size, 0, none⟩), .pointer (some ⟨w.heap.size + 1, 0, none⟩)]] 40)).block _ hgl).trans (own_whole hown)
      have hB7 := heap_alloc_new wr (.cells #[.func (.func 142) #[] #[.pointer (some ⟨w.heap.size, 0, none⟩), .pointer (some ⟨w.heap.size + 1, 0, none⟩)]] 40)
      have hBB := BR.alloc (Nat.le_of_lt hgl) (.cells #[.func (.func 142) #[] #[.pointer (some ⟨w.heap.size, 0, none⟩), .pointer (some ⟨w.heap.size + 1, 0, none⟩)]] 40)
      obtain ⟨wB, hwB⟩ : ∃ wB, wr.alloc (.cells #[.func (.func 142) #[] #[.pointer (some ⟨w.heap.size, 0, none⟩), .pointer (some ⟨w.heap.size + 1, 0, none⟩)]] 40) = wB := ⟨_, rfl⟩
      obtain ⟨B7, hB7e⟩ : ∃ B7, wr.heap.size = B7 := ⟨_, rfl⟩
      rw [hwB] at hK hB7 hBB
      rw [hB7e] at hB7 hgl
      have HK := hide hK
      have HBB := hide hBB
      have HB7 := hide hB7
      have HGL := hide hgl
      obtain ⟨l, hl⟩ : ∃ l, upto k = l := ⟨_, rfl⟩
      have hll : l.length = k := by rw [← hl, upto_len]
      have HM : Hid (∀ x ∈ l, ∃ i : Nat, x = (i : Int) ∧ i < k) := by intro x hx; rw [← hl] at hx; exact upto_mem hx
      rw [hl] at HK HB HL
      have HX : Hid (Calls Tryz.prog 143 #[.slice (some ⟨g, 0, none⟩) k k, .func (.func 144) #[] #[.pointer (some ⟨B7, 0, none⟩)]] wB
          fun e w' => e = .returned (.tuple #[]) ∧ w'.heap[g]? = some (.cells (L.map (Value.int .i64)).toArray 3 (0, 0)) ∧ wB.grownBy w' (some g)) := by
        have h := stable_any f g k B7 l wB HK.out (by omega) (by omega) (by
          intro x y w' hx hy hg'
          obtain ⟨i, rfl, hi⟩ := HM.out x hx
          obtain ⟨j, rfl, hj⟩ := HM.out y hy
          refine HI.out w' B7 i j ?_ hi hj (cell_of_block ((hg'.block B7 (lt_of_block HB7.out) (fun e => by have := Option.some.inj e; have := HGL.out; omega)).trans HB7.out) 0)
          rw [← HSZ.out]
          exact HBB.out.grown hg' (Nat.le_of_lt (lt_of_block HK.out)) (fun q hq => by cases hq; exact Nat.le_refl _)) HB.out
        rw [hll, ← HL.out] at h
        exact h
      have HLL : Hid (L.length = k) := by rw [HL.out]; exact (insK_len _ _ _).trans hll
      clear hl hown BR hll hK hBB hB7 hgl
      go_wp2_with fail
      refine HX.out.mono ?_
      rintro e w1 ⟨rfl, hb1, hg1⟩
      have HB1 := hide hb1
      have HG1 := hide hg1
      clear hb1 hg1
      go_wp2
      go_ret
      have hgw : w.heap.size ≤ g := by have := HSZ.out; omega
      refine ⟨_, rfl, own_back HB1.out HLL.out hgw (by unfold maxLen; omega), ?_⟩
      exact (HW.out.trans (HBB.out.mono hgw)).grown HG1.out (Nat.le_trans hgw (Nat.le_of_lt (lt_of_block HK.out))) (fun q hq => by cases hq; exact hgw)
end Go.Proofs.YtgebplpbnaeckaaGreatDoor
