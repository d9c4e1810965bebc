/- Texts of this seat one behind the other: RankI, RankC, RankM, DskM. Conditions: none. -/
import Derived.Test.YtgebplpbnaeckaaGreatDoorMg19
import Derived.Test.YtgebplpbnaeckaaGreatDoorMg17
import Derived.Test.YtgebplpbnaeckaaGreatDoorMg18
import Derived.Test.YtgebplpbnaeckaaGreatDoorMg05
import Derived.Test.YtgebplpbnaeckaaGreatDoorMg06
import Derived.Test.YtgebplpbnaeckaaGreatDoorMg08
import Derived.Test.YtgebplpbnaeckaaGreatDoorMg11
import Derived.Laws.EntriesVeiled
import Derived.Deep.RegionWith
import Derived.Deep.RegionHeld3

/- RankI: clearestFirst of the program. -/
namespace Go.Proofs.YtgebplpbnaeckaaGreatDoor
open Go.RowKit Go.Joins

theorem leadV_le {n : Int} {ss : List Int} (hs : ∀ x ∈ ss, 0 ≤ x ∧ x ≤ n) (j : Int) (hj : j.toNat < ss.length) : 0 ≤ leadV n ss j ∧ leadV n ss j ≤ n := by
  have h := hs _ (mem_of_at hj)
  unfold leadV
  rw [getD_lt hj]
  omega
set_option maxHeartbeats 2000000 in
set_option maxRecDepth 100000 in
theorem cmp_any (n : Int) (ss : List Int) (a : Option Addr) (cap B2 B3 B7 i j : Nat) (w : World) (hi' : i < ss.length) (hj : j < ss.length) (hn : 0 ≤ n ∧ n ≤ 5) (hs : ∀ x ∈ ss, 0 ≤ x ∧ x ≤ n) (hi : Ints w a ss) (h2 : w.cell? ⟨B2, 0, none⟩ = some (.slice a ss.length cap)) (h3 : w.cell? ⟨B3, 0, none⟩ = some (.int .i64 n))
    (h7 : w.cell? ⟨B7, 0, none⟩ = some (.func (.func 142) #[] #[.pointer (some ⟨B2, 0, none⟩), .pointer (some ⟨B3, 0, none⟩)])) :
    Calls Tryz.prog 144 #[.int .i64 (i : Int), .int .i64 (j : Int), .pointer (some ⟨B7, 0, none⟩)] w fun e w' => e = .returned (.int .i64 (leadV n ss (j : Int) - leadV n ss (i : Int))) ∧ ∃ m, w' = w.drewN m := by
  have li := leadV_le hs (i : Int) (by rw [Int.toNat_natCast]; exact hi')
  have lj := leadV_le hs (j : Int) (by rw [Int.toNat_natCast]; exact hj)
  have hs5 : ∀ x ∈ ss, 0 ≤ x ∧ x ≤ 5 := fun x hx => by have := hs x hx; omega
  have HI := hide (fun q : Nat => lead_any n ss a cap B2 B3 i (w.drewN q) hi' hn hs5 (hi.below (belN _ _)) h2 h3)
  have HJ := hide (fun q : Nat => lead_any n ss a cap B2 B3 j (w.drewN q) hj hn hs5 (hi.below (belN _ _)) h2 h3)
  obtain ⟨x, hx⟩ : ∃ x, leadV n ss (i : Int) = x := ⟨_, rfl⟩
  obtain ⟨y, hy⟩ : ∃ y, leadV n ss (j : Int) = y := ⟨_, rfl⟩
  rw [hx] at HI li ⊢
  rw [hy] at HJ lj ⊢
  have hw : IntKind.i64.wrap (y - x) = y - x := IntWalk.i64_in _ (by omega)
  clear hx hy hs hs5 hi
  go_enter Tryz.func144, Tryz.ntmps144
  go_wp2
  go_quiet (first
    | (go_at_call_of 142 (Value.int .i64 (j : Int)); exact quiet_add (HJ.out _))
    | (go_at_call_of 142 (Value.int .i64 (i : Int)); exact quiet_add (HI.out _)))
  go_wp2
  go_ret
  exact ⟨rfl, ⟨_, rfl⟩⟩

set_option maxHeartbeats 4000000 in
theorem stable_any (f : Int → Int) (g cap B : Nat) (l : List Int) (w : World) (hb : w.heap[g]? = some (.cells (l.map (Value.int .i64)).toArray 3 (0, 0))) (hl : l.length ≤ 4) (hpos : 0 < l.length)
    (hf : ∀ (x y : Int) (w' : World), x ∈ l → y ∈ l → w.grownBy w' (some g) → Calls Tryz.prog 144 #[.int .i64 x, .int .i64 y, .pointer (some ⟨B, 0, none⟩)] w' fun e w'' => e = .returned (.int .i64 (f y - f x)) ∧ ∃ m, w'' = w'.drewN m)
    (hbd : ∀ x ∈ l, 0 ≤ f x ∧ f x ≤ 16) :
    Calls Tryz.prog 143 #[.slice (some ⟨g, 0, none⟩) l.length cap, .func (.func 144) #[] #[.pointer (some ⟨B, 0, none⟩)]] w
      fun e w' => e = .returned (.tuple #[]) ∧ w'.heap[g]? = some (.cells ((insK f l (l.length - 1)).map (Value.int .i64)).toArray 3 (0, 0)) ∧ w.grownBy w' (some g) := by
  have H1 : Calls Tryz.prog 167 #[.slice (some ⟨g, 0, none⟩) l.length cap, .int .i64 (l.length : Nat), .func (.func 144) #[] #[.pointer (some ⟨B, 0, none⟩)]] w
      fun e w' => e = .returned (.tuple #[]) ∧ w'.heap[g]? = some (.cells ((insK f l (l.length - 1)).map (Value.int .i64)).toArray 3 (0, 0)) ∧ w.grownBy w' (some g) := by
    have HX := hide (insertion_any f g cap B l w hb hl hpos hf hbd)
    clear hf hbd hb
    go_enter Tryz.func167, Tryz.ntmps167
    go_wp2_with fail
    go_loopw [7, 8] (fun x y wr => x = .int .i64 0 ∧ y = .int .i64 20 ∧ wr = w) (fun _ _ _ => 0)
    case atStart => exact ⟨rfl, rfl, rfl⟩
    case round =>
      obtain ⟨rfl, rfl, rfl⟩ := hrel
      go_wp2_with fail
      refine HX.out.mono ?_
      rintro e w1 ⟨rfl, hb1, hg1⟩
      have HB := hide hb1
      have HG := hide hg1
      clear hb1 hg1
      go_wp2
      go_loopw [6] (fun x wr => x = .int .i64 20 ∧ wr = w1) (fun _ _ => 0)
      case atStart => exact ⟨rfl, rfl⟩
      case round =>
        obtain ⟨rfl, rfl⟩ := hrel
        go_wp2
        go_end0
        exact ⟨rfl, HB.out, HG.out⟩
  have HX := hide H1
  clear H1 hf hbd hb
  go_enter Tryz.func143, Tryz.ntmps143
  go_wp2_with fail
  refine HX.out.mono ?_
  rintro e w1 ⟨rfl, hb1, hg1⟩
  have HB := hide hb1
  have HG := hide hg1
  clear hb1 hg1
  go_wp2
  go_end0
  exact ⟨rfl, HB.out, HG.out⟩
end Go.Proofs.YtgebplpbnaeckaaGreatDoor

/- RankC: The program's order of the issues, the clearest first. -/
namespace Go.Proofs.YtgebplpbnaeckaaGreatDoor
open Go.RowKit Go.Joins

theorem own_whole {w : World} {base g n : Nat} {zs : List Int} (h : w.ownsRow base 3 1 (.slice (some ⟨g, 0, none⟩) n n) n (zs.map (Value.int .i64))) : w.heap[g]? = some (.cells (zs.map (Value.int .i64)).toArray 3 (0, 0)) := by
  rcases h.2 with ⟨h0, _⟩ | ⟨g', cap', cur, hv, _, hb, _, _, hs, ht⟩
  · cases h0
  · cases hv
    rw [hb]
    have e : cur = (zs.map (Value.int .i64)).toArray := by
      apply Array.ext'
      rw [List.toList_toArray, ← ht]
      rw [List.take_of_length_le]
      simp [hs]
    rw [e]
theorem own_back {w : World} {base g n : Nat} {zs : List Int} (hg : w.heap[g]? = some (.cells (zs.map (Value.int .i64)).toArray 3 (0, 0))) (hl : zs.length = n) (hb : base ≤ g) (hm : n ≤ maxLen) : Owns w base (.slice (some ⟨g, 0, none⟩) n n) zs := by
  refine ⟨by simp, .inr ⟨g, n, _, by rw [hl], hb, hg, by omega, hm, by simp [hl], by rw [List.take_of_length_le (by simp)]⟩⟩
/-- the numbers below m, and of them the first k laid, zeros behind -/
def upto (m : Nat) : List Int := (List.range m).map fun t : Nat => (t : Int)
def uptoK (m k : Nat) : List Int := (List.range m).map fun t : Nat => if t < k then (t : Int) else 0
theorem upto_len (m : Nat) : (upto m).length = m := by simp [upto]
theorem uptoK_len (m k : Nat) : (uptoK m k).length = m := by simp [uptoK]
theorem uptoK_zero (m : Nat) : uptoK m 0 = List.replicate m 0 := by
  unfold uptoK
  rw [List.eq_replicate_iff]
  refine ⟨by simp, fun b hb => ?_⟩
  simp at hb
  exact hb.2.symm
theorem uptoK_all (m : Nat) : uptoK m m = upto m := by
  unfold uptoK upto
  exact List.map_congr_left fun t ht => if_pos (by simpa using ht)
theorem uptoK_set (m k : Nat) (h : k < m) : (uptoK m k).set k (k : Int) = uptoK m (k + 1) := by
  refine ints_ext (by simp [uptoK]) fun t ht => ?_
  have ht' : t < m := by simpa [uptoK] using ht
  rw [List.getD_eq_getElem?_getD, List.getD_eq_getElem?_getD]
  by_cases e : k = t
  · subst e
    rw [List.getElem?_set_self (by rw [uptoK_len]; exact h)]
    simp [uptoK, ht']
  · rw [List.getElem?_set_ne e]
    simp only [uptoK, List.getElem?_map, List.getElem?_range ht', Option.map_some, Option.getD_some]
    by_cases h1 : t < k
    · rw [if_pos h1, if_pos (by omega)]
    · rw [if_neg h1, if_neg (by omega)]
theorem upto_mem {m : Nat} {x : Int} (h : x ∈ upto m) : ∃ i : Nat, x = (i : Int) ∧ i < m := by
  simp [upto] at h
  obtain ⟨i, hi, rfl⟩ := h
  exact ⟨i, rfl, hi⟩
/-- the issues, the clearest first -/
def clearL (n : Int) (ss : List Int) : List Int := insK (leadV n ss) (upto ss.length) (ss.length - 1)
theorem clearL_len (n : Int) (ss : List Int) : (clearL n ss).length = ss.length := by unfold clearL; rw [insK_len, upto_len]

set_option maxHeartbeats 4000000 in
set_option maxRecDepth 100000 in
theorem clearestFirst_any (n : Int) (a : Option Addr) (cap : Nat) (ss : List Int) (w : World) (hi : Ints w a ss) (h1 : 0 < ss.length) (h4 : ss.length ≤ 4) (hn : 0 ≤ n ∧ n ≤ 5) (hs : ∀ x ∈ ss, 0 ≤ x ∧ x ≤ n) :
    Calls Tryz.prog 112 #[.slice a ss.length cap, .int .i64 n] w (Gives (clearL n ss) w) := by
  obtain ⟨i0, hi0, hz0, hz1, hz2⟩ := info_parts info_int
  obtain ⟨m, hm⟩ : ∃ m, ss.length = m := ⟨_, rfl⟩
  have HI : Hid (∀ (wr : World) (B7 i j : Nat), Below (w.heap.size + 2) ((w.alloc (.cells #[.slice a ss.length cap] 35)).alloc (.cells #[.int .i64 n] 3)) wr → i < ss.length → j < ss.length → wr.cell? ⟨B7, 0, none⟩ = some (.func (.func 142) #[] #[.pointer (some ⟨w.heap.size, 0, none⟩), .pointer (some ⟨w.heap.size + 1, 0, none⟩)]) → Calls Tryz.prog 144 #[.int .i64 (i : Int), .int .i64 (j : Int), .pointer (some ⟨B7, 0, none⟩)] wr fun e w' => e = .returned (.int .i64 (leadV n ss (j : Int) - leadV n ss (i : Int))) ∧ ∃ m, w' = wr.drewN m) := by
    intro wr B7 i j hb hi' hj h7
    have k0 : ((w.alloc (.cells #[.slice a ss.length cap] 35)).alloc (.cells #[.int .i64 n] 3)).heap[w.heap.size]? = some (.cells #[.slice a ss.length cap] 35 (0, 0)) := by
      rw [(bel1 (w.alloc (.cells #[.slice a ss.length cap] 35)) (.cells #[.int .i64 n] 3)).block _ (lt_of_block (heap_alloc_new _ _))]
      exact heap_alloc_new _ _
    have k1 : ((w.alloc (.cells #[.slice a ss.length cap] 35)).alloc (.cells #[.int .i64 n] 3)).heap[w.heap.size + 1]? = some (.cells #[.int .i64 n] 3 (0, 0)) := by
      have := heap_alloc_new (w.alloc (.cells #[.slice a ss.length cap] 35)) (.cells #[.int .i64 n] 3)
      rwa [show (w.alloc (.cells #[.slice a ss.length cap] 35)).heap.size = w.heap.size + 1 from by simp] at this
    have e0 := (hb.block _ (by omega)).trans k0
    have e1 := (hb.block _ (by omega)).trans k1
    have ii : Ints wr a ss := by
      have b2 := bnext (bel1 w (.cells #[.slice a ss.length cap] 35)) (bel1 _ (.cells #[.int .i64 n] 3))
      exact (hi.below b2).below ⟨hb.os, hb.tape, hb.output, hb.size, fun k hk => hb.block k (by rw [show ((w.alloc (.cells #[.slice a ss.length cap] 35)).alloc (.cells #[.int .i64 n] 3)).heap.size = w.heap.size + 2 from by simp] at hk; exact hk)⟩
    exact cmp_any n ss a cap _ _ B7 i j wr hi' hj hn hs ii (cell_of_block e0 0) (cell_of_block e1 0) h7
  have HB : Hid (∀ x ∈ upto ss.length, 0 ≤ leadV n ss x ∧ leadV n ss x ≤ 16) := by
    intro x hx
    obtain ⟨i, rfl, hi'⟩ := upto_mem hx
    have := leadV_le hs (i : Int) (by rw [Int.toNat_natCast]; exact hi')
    omega
  have HW := hide (bnext (bel1 w (.cells #[.slice a ss.length cap] 35)) (bel1 _ (.cells #[.int .i64 n] 3)))
  have HC : Hid ((w.alloc (.cells #[.slice a ss.length cap] 35)).cell? ⟨w.heap.size, 0, none⟩ = some (.slice a ss.length cap)) := cell_of_block (heap_alloc_new _ _) 0
  have HL : Hid (clearL n ss = insK (leadV n ss) (upto ss.length) (ss.length - 1)) := rfl
  obtain ⟨L, hL⟩ : ∃ L, clearL n ss = L := ⟨_, rfl⟩
  obtain ⟨f, hf⟩ : ∃ f, leadV n ss = f := ⟨_, rfl⟩
  rw [hL, hf] at HL
  rw [hL]
  rw [hf] at HI HB
  rw [hm] at HI HB HW HC HL ⊢
  clear hL hf hi hs
  obtain ⟨c1, hc1⟩ : ∃ c1, w.alloc (.cells #[.slice a m cap] 35) = c1 := ⟨_, rfl⟩
  obtain ⟨wo, hwo⟩ : ∃ wo, c1.alloc (.cells #[.int .i64 n] 3) = wo := ⟨_, rfl⟩
  have hsz : wo.heap.size = w.heap.size + 2 := by rw [← hwo, ← hc1]; simp
  have hsz1 : c1.heap.size = w.heap.size + 1 := by rw [← hc1]; simp
  have hx : wo.cell? ⟨w.heap.size, 0, none⟩ = some (.slice a m cap) := by
    rw [← hwo, ← hc1]
    exact cell_of_block ((bel1 (w.alloc (.cells #[.slice a m cap] 35)) (.cells #[.int .i64 n] 3)).block _ (lt_of_block (heap_alloc_new _ _)) |>.trans (heap_alloc_new _ _)) 0
  rw [hc1, hwo] at HI HW
  obtain ⟨g, hg⟩ : ∃ g, wo.heap.size = g := ⟨_, rfl⟩
  have HSZ : Hid (g = w.heap.size + 2) := hg.symm.trans hsz
  clear HC hsz
  go_enter Tryz.func112, Tryz.ntmps112
  go_wp2_with (at_make; refine wpList_make_full _ rfl _ _ 35 rfl g 3 i0 (.int .i64 0) 1 Tryz.underlying35 hi0 hz0 hz1 _ _ _ _ m rfl rfl (by omega) (by omega) ?b2 ?b3 (Nat.le_of_eq hg.symm) ?_)
  case b2 => rw [hz2]; omega
  case b3 => unfold maxLen; omega
  intro w0 hown0 hgrow0
  rw [madeInts] at hown0
  have hb0 : Below wo.heap.size wo w0 := (Below.refl _ _).grown hgrow0 (Nat.le_refl _) (fun k h => by cases h)
  clear hgrow0
  try rw [hg] at hown0
  rw [hg] at hb0
  go_wp2
  clear hc1 hwo hx
  go_loopw [13] (fun i wr => ∃ k : Nat, k ≤ m ∧ i = .int .i64 k ∧ wr.ownsRow g 3 1 (.slice (some ⟨g, 0, none⟩) m m) m ((uptoK m k).map (Value.int .i64)) ∧ Below g wo wr) (fun i _ => m - (intOf i).toNat)
  case atStart => exact ⟨0, Nat.zero_le _, rfl, by rw [uptoK_zero]; exact hown0, hb0⟩
  case round =>
    clear hown0 hb0
    obtain ⟨k, hk, rfl, hown, BR⟩ := hrel
    by_cases hlt : k < m
    · have hfz := hown.frozenAt k
      have hst := hown.cellAt k (by omega)
      rw [List.getElem?_map, List.getElem?_eq_getElem (by rw [uptoK_len]; exact hlt), Option.map_some] at hst
      have HM := hide (uptoK_set m k hlt)
      go_wp2
      go_roundw
      case rel => exact ⟨k + 1, by omega, by go_num, by rw [← HM.out, List.map_set]; exact (hown.stored k _).1, BR.setCell (p := ⟨g, k, none⟩) (Nat.le_refl _) _⟩
      case measure => simp [intOf]; omega
    · obtain rfl : k = m := by omega
      rw [uptoK_all] at hown
      have hgl := lt_of_block (own_whole hown)
      have hK := ((bel1 wr (.cells #[.func (.func 142) #[] #[.pointer (some ⟨w.heap.size, 0, none⟩), .pointer (some ⟨w.heap.size + 1, 0, none⟩)]] 40)).block _ hgl).trans (own_whole hown)
      have hB7 := heap_alloc_new wr (.cells #[.func (.func 142) #[] #[.pointer (some ⟨w.heap.size, 0, none⟩), .pointer (some ⟨w.heap.size + 1, 0, none⟩)]] 40)
      have hBB := BR.alloc (Nat.le_of_lt hgl) (.cells #[.func (.func 142) #[] #[.pointer (some ⟨w.heap.size, 0, none⟩), .pointer (some ⟨w.heap.size + 1, 0, none⟩)]] 40)
      obtain ⟨wB, hwB⟩ : ∃ wB, wr.alloc (.cells #[.func (.func 142) #[] #[.pointer (some ⟨w.heap.size, 0, none⟩), .pointer (some ⟨w.heap.size + 1, 0, none⟩)]] 40) = wB := ⟨_, rfl⟩
      obtain ⟨B7, hB7e⟩ : ∃ B7, wr.heap.size = B7 := ⟨_, rfl⟩
      rw [hwB] at hK hB7 hBB
      rw [hB7e] at hB7 hgl
      have HK := hide hK
      have HBB := hide hBB
      have HB7 := hide hB7
      have HGL := hide hgl
      obtain ⟨l, hl⟩ : ∃ l, upto k = l := ⟨_, rfl⟩
      have hll : l.length = k := by rw [← hl, upto_len]
      have HM : Hid (∀ x ∈ l, ∃ i : Nat, x = (i : Int) ∧ i < k) := by intro x hx; rw [← hl] at hx; exact upto_mem hx
      rw [hl] at HK HB HL
      have HX : Hid (Calls Tryz.prog 143 #[.slice (some ⟨g, 0, none⟩) k k, .func (.func 144) #[] #[.pointer (some ⟨B7, 0, none⟩)]] wB
          fun e w' => e = .returned (.tuple #[]) ∧ w'.heap[g]? = some (.cells (L.map (Value.int .i64)).toArray 3 (0, 0)) ∧ wB.grownBy w' (some g)) := by
        have h := stable_any f g k B7 l wB HK.out (by omega) (by omega) (by
          intro x y w' hx hy hg'
          obtain ⟨i, rfl, hi⟩ := HM.out x hx
          obtain ⟨j, rfl, hj⟩ := HM.out y hy
          refine HI.out w' B7 i j ?_ hi hj (cell_of_block ((hg'.block B7 (lt_of_block HB7.out) (fun e => by have := Option.some.inj e; have := HGL.out; omega)).trans HB7.out) 0)
          rw [← HSZ.out]
          exact HBB.out.grown hg' (Nat.le_of_lt (lt_of_block HK.out)) (fun q hq => by cases hq; exact Nat.le_refl _)) HB.out
        rw [hll, ← HL.out] at h
        exact h
      have HLL : Hid (L.length = k) := by rw [HL.out]; exact (insK_len _ _ _).trans hll
      clear hl hown BR hll hK hBB hB7 hgl
      go_wp2_with fail
      refine HX.out.mono ?_
      rintro e w1 ⟨rfl, hb1, hg1⟩
      have HB1 := hide hb1
      have HG1 := hide hg1
      clear hb1 hg1
      go_wp2
      go_ret
      have hgw : w.heap.size ≤ g := by have := HSZ.out; omega
      refine ⟨_, rfl, own_back HB1.out HLL.out hgw (by unfold maxLen; omega), ?_⟩
      exact (HW.out.trans (HBB.out.mono hgw)).grown HG1.out (Nat.le_trans hgw (Nat.le_of_lt (lt_of_block HK.out))) (fun q hq => by cases hq; exact hgw)
end Go.Proofs.YtgebplpbnaeckaaGreatDoor

/- RankM: The clearest first: the library's sort and the model's rows answer the same. -/
namespace Go.Proofs.YtgebplpbnaeckaaGreatDoor
open Go.RowKit Go.Joins

/-- the issues of one clearness among the first k -/
def rowF (f : Int → Int) (d : Int) : Nat → List Int
  | 0 => []
  | k + 1 => if f (k : Int) = d then rowF f d k ++ [(k : Int)] else rowF f d k
/-- .. of the t greatest -/
def rowsF (f : Int → Int) (n m : Nat) : Nat → List Int
  | 0 => []
  | t + 1 => rowsF f n m t ++ rowF f ((n : Int) - (t : Int)) m
theorem rowF_len (f : Int → Int) (d : Int) : ∀ k, (rowF f d k).length ≤ k
  | 0 => Nat.le_refl _
  | k + 1 => by
    have := rowF_len f d k
    unfold rowF
    split
    · rw [List.length_append]; simp; omega
    · omega
theorem rowsF_len (f : Int → Int) (n m : Nat) : ∀ t, (rowsF f n m t).length ≤ m * t
  | 0 => by simp [rowsF]
  | t + 1 => by
    have h1 := rowsF_len f n m t
    have h2 := rowF_len f ((n : Int) - (t : Int)) m
    unfold rowsF
    rw [List.length_append, Nat.mul_succ]
    omega
/-- all lists of m numbers up to n -/
def allL (n : Nat) : Nat → List (List Nat)
  | 0 => [[]]
  | m + 1 => (List.range (n + 1)).flatMap fun a => (allL n m).map fun l => a :: l
theorem mem_allL {n : Nat} : ∀ {m : Nat} {l : List Nat}, l.length = m → (∀ x ∈ l, x ≤ n) → l ∈ allL n m
  | 0, l, hl, _ => by simp [allL, List.length_eq_zero_iff.1 hl]
  | m + 1, [], hl, _ => by simp at hl
  | m + 1, a :: l, hl, h => by
    unfold allL
    rw [List.mem_flatMap]
    refine ⟨a, List.mem_range.2 (by have := h a (by simp); omega), List.mem_map.2 ⟨l, mem_allL (by simpa using hl) (fun x hx => h x (by simp [hx])), rfl⟩⟩
def rankOk (n : Nat) (l : List Nat) : Bool :=
  decide (clearL (n : Int) (l.map fun x : Nat => (x : Int)) = rowsF (leadV (n : Int) (l.map fun x : Nat => (x : Int))) n l.length (n + 1)) && ordB (l.length : Int) (clearL (n : Int) (l.map fun x : Nat => (x : Int)))
set_option maxRecDepth 100000 in
theorem rank_chk : ((List.range 6).all fun n => (List.range 4).all fun m => (allL n (m + 1)).all fun l => rankOk n l) = true := by decide +kernel
theorem rank_ok {n : Nat} {ss : List Int} (hn : n ≤ 5) (h1 : 0 < ss.length) (h4 : ss.length ≤ 4) (hs : ∀ x ∈ ss, 0 ≤ x ∧ x ≤ (n : Int)) :
    clearL (n : Int) ss = rowsF (leadV (n : Int) ss) n ss.length (n + 1) ∧ OrdOk (ss.length : Int) (clearL (n : Int) ss) := by
  obtain ⟨l, hl⟩ : ∃ l : List Nat, l.map (fun x : Nat => (x : Int)) = ss := by
    refine ⟨ss.map Int.toNat, ?_⟩
    rw [List.map_map]
    conv => rhs; rw [← List.map_id ss]
    refine List.map_congr_left fun x hx => ?_
    have := hs x hx
    simp only [Function.comp, id]
    omega
  have hll : l.length = ss.length := by rw [← hl, List.length_map]
  have h := List.all_eq_true.1 (List.all_eq_true.1 (List.all_eq_true.1 rank_chk n (List.mem_range.2 (by omega))) (ss.length - 1) (List.mem_range.2 (by omega))) l (mem_allL (by omega) (fun x hx => by
    have := hs (x : Int) (by rw [← hl]; exact List.mem_map.2 ⟨x, hx, rfl⟩)
    omega))
  unfold rankOk at h
  rw [Bool.and_eq_true, hl, hll] at h
  exact ⟨of_decide_eq_true h.1, ord_of h.2⟩
/-- what RankedRule answers -/
def rankV (n : Int) (zs vs : List Int) : Int := turnV n zs vs (clearL vs.length (supL n.toNat vs))
theorem supL_le {m : Nat} {vs : List Int} : ∀ x ∈ supL m vs, 0 ≤ x ∧ x ≤ (vs.length : Int) := by
  intro x hx
  simp [supL, supKL] at hx
  obtain ⟨j, _, rfl⟩ := hx
  have := supK_le vs j vs.length
  omega
theorem rankV_yes {n : Nat} {zs vs : List Int} (h : vvB n zs vs = true) : clearL vs.length (supL n vs) = rowsF (leadV vs.length (supL n vs)) vs.length n (vs.length + 1) ∧ OrdOk (n : Int) (clearL vs.length (supL n vs)) ∧ rankV n zs vs = ((turnK zs vs (clearL vs.length (supL n vs)) (clearL vs.length (supL n vs)).length).2 : Nat) := by
  have hv := vv_of h
  have h1 := hv.1.1
  have h2 := hv.2.2
  have hk := rank_ok (n := vs.length) (ss := supL n vs) (by omega) (by rw [supL_length]; omega) (by rw [supL_length]; omega) supL_le
  rw [supL_length] at hk
  refine ⟨hk.1, hk.2, ?_⟩
  unfold rankV
  rw [Int.toNat_natCast]
  exact turnV_yes h (ordB_true hk.2)
theorem rankV_no {n : Int} {zs vs : List Int} (h : vvB n zs vs = false) : rankV n zs vs = -1 := turnV_no1 h
end Go.Proofs.YtgebplpbnaeckaaGreatDoor

/- DskM: The desk: what it answers to a line, as plain functions. -/
namespace Go.Proofs.YtgebplpbnaeckaaGreatDoor
open Go.RowKit Go.Joins

def yesB (b : Bool) : ByteArray := if b = true then ⟨#[121, 101, 115]⟩ else ⟨#[110, 111]⟩
theorem yesB_yes : yesB true = ⟨#[121, 101, 115]⟩ := rfl
theorem yesB_no : yesB false = ⟨#[110, 111]⟩ := rfl
abbrev wrongB : ByteArray := ⟨#[119, 114, 111, 110, 103]⟩
abbrev whatB : ByteArray := ⟨#[119, 104, 97, 116]⟩
abbrev wCrit : ByteArray := ⟨#[99, 114, 105, 116, 105, 99, 97, 108]⟩
abbrev wMedn : ByteArray := ⟨#[109, 101, 100, 105, 97, 110]⟩
abbrev wBlck : ByteArray := ⟨#[98, 108, 111, 99, 107, 101, 100]⟩
abbrev wMajr : ByteArray := ⟨#[109, 97, 106, 111, 114, 105, 116, 121]⟩
abbrev wMdns : ByteArray := ⟨#[109, 101, 100, 105, 97, 110, 115]⟩
abbrev wSlat : ByteArray := ⟨#[115, 108, 97, 116, 101, 114]⟩
abbrev wRank : ByteArray := ⟨#[114, 97, 110, 107, 101, 100]⟩
/-- what is told of a space -/
def askS (w : ByteArray) (n : Int) (zs : List Int) : Option ByteArray :=
  if w = wCrit then some (numS (critL n.toNat zs).length) else if w = wMedn then some (yesB (closedB med n zs)) else if w = wBlck then some (yesB (blkB n zs)) else none
/-- what is told of votes in a space -/
def askV (w : ByteArray) (n : Int) (zs vs : List Int) : Option ByteArray :=
  if w = wMajr then some (numS (wantB vs n.toNat)) else if w = wMdns then some (lstS (bestA n zs vs) (bestA n zs vs).length)
  else if w = wSlat then some (lstS (bestM n zs vs) (bestM n zs vs).length) else if w = wRank then some (numS (rankV n zs vs).toNat) else none
def isS (w : ByteArray) : Bool := decide (w = wCrit ∨ w = wMedn ∨ w = wBlck)
def isV (w : ByteArray) : Bool := decide (w = wMajr ∨ w = wMdns ∨ w = wSlat ∨ w = wRank)
/-- the answer to the pieces of a line -/
def ansP : List ByteArray → ByteArray
  | [w, t] => if isS w = true then (match parS t.data.toList with
    | some (n, zs) => (askS w n zs).getD wrongB
    | none => wrongB) else whatB
  | [w, t, v] => if isV w = true then (match parS t.data.toList with
    | some (n, zs) => if votesB zs ((spl 44 v.data.toList).map rdN) = true then (askV w n zs ((spl 44 v.data.toList).map rdN)).getD wrongB else wrongB
    | none => wrongB) else whatB
  | _ => whatB
/-- the answer to a line -/
def ansL (l : List UInt8) : ByteArray := ansP ((spl 32 l).map fun x => ⟨x.toArray⟩)
theorem toBA (ps : List ByteArray) : (ps.map (·.data.toList)).map (fun x => (⟨x.toArray⟩ : ByteArray)) = ps := by
  rw [List.map_map]
  exact (List.map_congr_left fun x _ => rfl).trans (List.map_id ps)
theorem ansL_of {ps : List ByteArray} {l : List UInt8} (h : ps.map (·.data.toList) = spl 32 l) : ansL l = ansP ps := by
  unfold ansL; rw [← h, toBA]
theorem ansP_none {w t : ByteArray} (h : parS t.data.toList = none) (hw : isS w = true) : ansP [w, t] = wrongB := by
  simp [ansP, hw, h]
theorem ansP_some {w t : ByteArray} {n : Int} {zs : List Int} (h : parS t.data.toList = some (n, zs)) (hw : isS w = true) : ansP [w, t] = (askS w n zs).getD wrongB := by
  simp [ansP, hw, h]
theorem ansP_what {w t : ByteArray} (hw : isS w = false) : ansP [w, t] = whatB := by
  simp [ansP, hw]
theorem ansP_none3 {w t v : ByteArray} (h : parS t.data.toList = none) (hw : isV w = true) : ansP [w, t, v] = wrongB := by
  simp [ansP, hw, h]
theorem ansP_bad3 {w t v : ByteArray} {n : Int} {zs : List Int} (h : parS t.data.toList = some (n, zs)) (hb : votesB zs ((spl 44 v.data.toList).map rdN) = false) (hw : isV w = true) : ansP [w, t, v] = wrongB := by
  simp [ansP, hw, h, hb]
theorem ansP_some3 {w t v : ByteArray} {n : Int} {zs : List Int} (h : parS t.data.toList = some (n, zs)) (hb : votesB zs ((spl 44 v.data.toList).map rdN) = true) (hw : isV w = true) : ansP [w, t, v] = (askV w n zs ((spl 44 v.data.toList).map rdN)).getD wrongB := by
  simp [ansP, hw, h, hb]
theorem ansP_what3 {w t v : ByteArray} (hw : isV w = false) : ansP [w, t, v] = whatB := by
  simp [ansP, hw]
theorem ansP_zero : ansP [] = whatB := rfl
theorem ansP_one (a : ByteArray) : ansP [a] = whatB := rfl
theorem ansP_more (a b c d : ByteArray) (r : List ByteArray) : ansP (a :: b :: c :: d :: r) = whatB := rfl
theorem isS_no {w : ByteArray} (h1 : ¬ w = wCrit) (h2 : ¬ w = wMedn) (h3 : ¬ w = wBlck) : isS w = false := by
  unfold isS; rw [decide_eq_false_iff_not]; simp only [not_or]; exact ⟨h1, h2, h3⟩
theorem isV_no {w : ByteArray} (h1 : ¬ w = wMajr) (h2 : ¬ w = wMdns) (h3 : ¬ w = wSlat) (h4 : ¬ w = wRank) : isV w = false := by
  unfold isV; rw [decide_eq_false_iff_not]; simp only [not_or]; exact ⟨h1, h2, h3, h4⟩
theorem askS_crit (n : Int) (zs : List Int) : (askS wCrit n zs).getD wrongB = numS (critL n.toNat zs).length := by simp [askS]
theorem askS_medn (n : Int) (zs : List Int) : (askS wMedn n zs).getD wrongB = yesB (closedB med n zs) := by
  unfold askS; rw [if_neg (by decide), if_pos rfl]; rfl
theorem askS_blck (n : Int) (zs : List Int) : (askS wBlck n zs).getD wrongB = yesB (blkB n zs) := by
  unfold askS; rw [if_neg (by decide), if_neg (by decide), if_pos rfl]; rfl
theorem askV_majr (n : Int) (zs vs : List Int) : (askV wMajr n zs vs).getD wrongB = numS (wantB vs n.toNat) := by simp [askV]
theorem askV_mdns (n : Int) (zs vs : List Int) : (askV wMdns n zs vs).getD wrongB = lstS (bestA n zs vs) (bestA n zs vs).length := by
  unfold askV; rw [if_neg (by decide), if_pos rfl]; rfl
theorem askV_slat (n : Int) (zs vs : List Int) : (askV wSlat n zs vs).getD wrongB = lstS (bestM n zs vs) (bestM n zs vs).length := by
  unfold askV; rw [if_neg (by decide), if_neg (by decide), if_pos rfl]; rfl
theorem askV_rank (n : Int) (zs vs : List Int) : (askV wRank n zs vs).getD wrongB = numS (rankV n zs vs).toNat := by
  unfold askV; rw [if_neg (by decide), if_neg (by decide), if_neg (by decide), if_pos rfl]; rfl
/-- what a read space is -/
theorem par_valid {l : List UInt8} {n : Int} {zs : List Int} (h : parS l = some (n, zs)) : Valid n zs := (parS_iff.1 h).1
theorem crit_81 (n : Nat) (zs : List Int) (h : n ≤ 4) : (critL n zs).length ≤ 81 := by
  refine Nat.le_trans (List.length_filter_le _ _) ?_
  have : ∀ n : Fin 5, (ordL n.val).length ≤ 81 := by decide +kernel
  exact this ⟨n, by omega⟩
theorem unb_sub (f : Int → Int → Bool) (zs : List Int) : ∀ x ∈ unbL f zs, x ∈ zs := fun x hx => by
  unfold unbL at hx
  exact (List.mem_filter.1 hx).1
theorem unb_len (f : Int → Int → Bool) (zs : List Int) : (unbL f zs).length ≤ zs.length := by
  unfold unbL
  exact List.length_filter_le _ _
theorem bestA_in {n : Int} {zs vs : List Int} (hV : Valid n zs) : (∀ x ∈ bestA n zs vs, 0 ≤ x ∧ x < 100) ∧ (bestA n zs vs).length ≤ 16 := by
  have hr := valid_range hV
  have hl := valid_len hV
  unfold bestA
  split
  · exact ⟨fun x hx => by have := hr x (unb_sub _ _ x hx); omega, Nat.le_trans (unb_len _ _) hl⟩
  · exact ⟨fun x hx => by simp at hx, Nat.zero_le _⟩
theorem bestM_in {n : Int} {zs vs : List Int} (hV : Valid n zs) : (∀ x ∈ bestM n zs vs, 0 ≤ x ∧ x < 100) ∧ (bestM n zs vs).length ≤ 16 := by
  have hr := valid_range hV
  have hl := valid_len hV
  unfold bestM
  split
  · exact ⟨fun x hx => by have := hr x (unb_sub _ _ x hx); omega, Nat.le_trans (unb_len _ _) hl⟩
  · exact ⟨fun x hx => by simp at hx, Nat.zero_le _⟩
theorem rank_in {n : Int} {zs vs : List Int} (hV : Valid n zs) (hv : votesB zs vs = true) : 0 ≤ rankV n zs vs ∧ rankV n zs vs < 100 := by
  have hvv : vvB n zs vs = true := by unfold vvB; rw [vsB_true hV, hv]; rfl
  obtain ⟨m, rfl⟩ := Int.eq_ofNat_of_zero_le (show 0 ≤ n from by have := hV.1; omega)
  obtain ⟨_, hok, e⟩ := rankV_yes hvv
  have h := valid_range hV _ (turn_in (vs := vs) hV hok)
  rw [e]; omega
theorem want_in {n : Int} {zs : List Int} (vs : List Int) (hV : Valid n zs) : wantB vs n.toNat < 16 := by
  have h := wantB_lt vs n.toNat
  have h3 : n.toNat ≤ 4 := by have := hV.1; omega
  exact Nat.lt_of_lt_of_le h (Nat.pow_le_pow_right (n := 2) (by decide) h3)
/-- what the desk has said to the first lines -/
def dskS (ls : List ByteArray) : Nat → ByteArray
  | 0 => ⟨#[]⟩
  | k + 1 => dskS ls k ++ ansL (ls.getD k ⟨#[]⟩).data.toList ++ ⟨#[10]⟩
end Go.Proofs.YtgebplpbnaeckaaGreatDoor
