/- Texts of this seat one behind the other: Has, OpenB, Bit, CrM. Conditions: none. -/
import Derived.Test.YtgebplpbnaeckaaGreatDoorMg01
import Derived.Test.YtgebplpbnaeckaaGreatDoorMg00

/- Has: Whether a list has a number: the model's loop and slices.Contains; InSpace. -/
namespace Go.Proofs.YtgebplpbnaeckaaGreatDoor
open Go.RowKit Go.Joins

def hasB (zs : List Int) (x : Int) : Bool := decide (x ∈ zs)
theorem mem_of_at {zs : List Int} {k : Nat} (h : k < zs.length) : zs[k] ∈ zs := List.getElem_mem h
theorem not_mem_of {zs : List Int} {x : Int} (h : ∀ j, j < zs.length → zs.getD j 0 ≠ x) : x ∉ zs := by
  intro hm
  obtain ⟨j, hj, e⟩ := List.getElem_of_mem hm
  exact h j hj (by rw [getD_lt hj]; exact e)
theorem hasB_true {zs : List Int} {x : Int} (h : x ∈ zs) : hasB zs x = true := by simpa [hasB] using h
theorem hasB_false {zs : List Int} {x : Int} (h : x ∉ zs) : hasB zs x = false := by simpa [hasB] using h

set_option maxHeartbeats 400000 in
theorem has_any (n x : Int) (a : Option Addr) (cap : Nat) (zs : List Int) (w : World) (hi : Ints w a zs) (hn : zs.length ≤ 1048576) :
    Calls Tryz.prog 29 #[.agg #[.int .i64 n, .slice a zs.length cap], .int .i64 x] w fun e w' => e = .returned (.bool (hasB zs x)) ∧ Below w.heap.size w w' := by
  have bx := Box.new w n a zs.length cap 37
  have ia := hi.below (bel1 w (.cells #[.int .i64 n, .slice a zs.length cap] 37))
  clear hi
  go_enter Tryz.func29, Tryz.ntmps29
  go_wp2_with fail
  go_loopw [5] (fun i wr => ∃ k : Nat, k ≤ zs.length ∧ i = .int .i64 k ∧ (∀ j, j < k → zs.getD j 0 ≠ x) ∧ Below (w.alloc (.cells #[.int .i64 n, .slice a zs.length cap] 37)).heap.size (w.alloc (.cells #[.int .i64 n, .slice a zs.length cap] 37)) wr) (fun i _ => zs.length - (intOf i).toNat)
  case atStart => exact ⟨0, Nat.zero_le _, rfl, fun j hj => by omega, Below.refl _ _⟩
  case round =>
    obtain ⟨k, hk, rfl, hall, hb⟩ := hrel
    have HA := hide hall
    clear hall
    obtain ⟨_, c0, c1⟩ := bx.below hb
    by_cases hlt : k < zs.length
    · obtain ⟨b, off, rfl, hbl, hc⟩ := (ia.below hb) (by omega)
      have hck := hc k hlt
      rw [getD_lt hlt] at hck
      clear hc ia
      by_cases he : zs[k] = x
      · have hE : (zs[k] == x) = true := by simpa using he
        have HF := hide (hasB_true (zs := zs) (x := x) (he ▸ mem_of_at hlt))
        clear he
        go_wp2
        go_ret
        exact ⟨ret_bool HF.out.symm, bnext (bel1 w _) hb⟩
      · have hE : (zs[k] == x) = false := by simpa using he
        have HE := hide he
        clear he
        go_wp2
        go_roundw
        case rel => exact ⟨k + 1, by omega, by go_num, fun j hj => by
          rcases Nat.lt_or_ge j k with h | h
          · exact HA.out j h
          · obtain rfl : j = k := by omega
            rw [getD_lt hlt]
            exact HE.out, hb⟩
        case measure => simp only [intOf]; omega
    · obtain rfl : k = zs.length := by omega
      go_wp2
      go_ret
      exact ⟨ret_bool (hasB_false (not_mem_of HA.out)).symm, bnext (bel1 w _) hb⟩

/-- What slices.Index leaves. -/
def IdxPost (zs : List Int) (x : Int) (w : World) (e : Ending) (w' : World) : Prop :=
  ∃ r : Int, ((x ∈ zs ∧ 0 ≤ r) ∨ (x ∉ zs ∧ r = -1)) ∧ r ≤ 1048576 ∧ e = .returned (.int .i64 r) ∧ Below w.heap.size w w'

set_option maxHeartbeats 400000 in
theorem index_any (x : Int) (a : Option Addr) (cap : Nat) (zs : List Int) (w : World) (hi : Ints w a zs) (hn : zs.length ≤ 1048576) :
    Calls Tryz.prog 159 #[.slice a zs.length cap, .int .i64 x] w (IdxPost zs x w) := by
  go_enter Tryz.func159, Tryz.ntmps159
  go_wp2_with fail
  go_loopw [8] (fun i wr => ∃ k : Nat, k ≤ zs.length ∧ i = .int .i64 k ∧ (∀ j, j < k → zs.getD j 0 ≠ x) ∧ Below w.heap.size w wr) (fun i _ => zs.length - (intOf i).toNat)
  case atStart => exact ⟨0, Nat.zero_le _, rfl, fun j hj => by omega, Below.refl _ _⟩
  case round =>
    obtain ⟨k, hk, rfl, hall, hb⟩ := hrel
    have HA := hide hall
    clear hall
    by_cases hlt : k < zs.length
    · obtain ⟨b, off, rfl, hbl, hc⟩ := (hi.below hb) (by omega)
      have hck := hc k hlt
      rw [getD_lt hlt] at hck
      clear hc hi
      by_cases he : x = zs[k]
      · have hE : (x == zs[k]) = true := by simpa using he
        have HE := hide he
        clear he
        go_wp2
        go_ret
        exact ⟨k, .inl ⟨by rw [HE.out]; exact mem_of_at hlt, by omega⟩, by omega, rfl, hb⟩
      · have hE : (x == zs[k]) = false := by simpa using he
        have HE := hide he
        clear he
        go_wp2
        go_roundw
        case rel => exact ⟨k + 1, by omega, by go_num, fun j hj => by
          rcases Nat.lt_or_ge j k with h | h
          · exact HA.out j h
          · obtain rfl : j = k := by omega
            rw [getD_lt hlt]
            exact fun e => HE.out e.symm, hb⟩
        case measure => simp only [intOf]; omega
    · obtain rfl : k = zs.length := by omega
      go_wp2
      go_ret
      exact ⟨-1, .inr ⟨not_mem_of HA.out, rfl⟩, by omega, rfl, hb⟩

theorem contains_any (x : Int) (a : Option Addr) (cap : Nat) (zs : List Int) (w : World) (hi : Ints w a zs) (hn : zs.length ≤ 1048576) :
    Calls Tryz.prog 134 #[.slice a zs.length cap, .int .i64 x] w fun e w' => e = .returned (.bool (hasB zs x)) ∧ Below w.heap.size w w' := by
  by_cases hm : x ∈ zs
  · have HB := hide (hasB_true hm)
    go_enter Tryz.func134, Tryz.ntmps134
    go_wp2_with fail
    refine (index_any _ _ _ _ _ hi hn).mono ?_
    rintro e w' ⟨r, hr, hr2, rfl, hb⟩
    have h0 : 0 ≤ r := by
      rcases hr with ⟨_, h⟩ | ⟨h, _⟩
      · exact h
      · exact absurd hm h
    clear hr hm
    go_wp2
    go_ret
    exact ⟨ret_bool HB.out.symm, hb⟩
  · have HB := hide (hasB_false hm)
    go_enter Tryz.func134, Tryz.ntmps134
    go_wp2_with fail
    refine (index_any _ _ _ _ _ hi hn).mono ?_
    rintro e w' ⟨r, hr, hr2, rfl, hb⟩
    have h0 : r < 0 := by
      rcases hr with ⟨h, _⟩ | ⟨_, h⟩
      · exact absurd h hm
      · omega
    clear hr hm
    go_wp2
    go_ret
    exact ⟨ret_bool (by rw [HB.out]; simp; omega), hb⟩

/-- what InSpace answers -/
def inB (n : Int) (zs : List Int) (x : Int) : Bool := vsB n zs && hasB zs x
theorem inB_false {n : Int} {zs : List Int} {x : Int} (h : vsB n zs = false) : inB n zs x = false := by unfold inB; rw [h]; rfl
theorem inB_true {n : Int} {zs : List Int} {x : Int} (h : vsB n zs = true) : inB n zs x = hasB zs x := by unfold inB; rw [h]; rfl

end Go.Proofs.YtgebplpbnaeckaaGreatDoor

/- OpenB: Whether a judgment has all answers of a part: plain mathematics. -/
namespace Go.Proofs.YtgebplpbnaeckaaGreatDoor
open Go.RowKit Go.Joins

def openB (zs : List Int) (c b : Int) : Bool := zs.any fun x => hpB x c b
theorem openB_true {zs : List Int} {c b : Int} {k : Nat} (hk : k < zs.length) (h : hpB zs[k] c b = true) : openB zs c b = true := by
  unfold openB; rw [List.any_eq_true]; exact ⟨zs[k], mem_of_at hk, h⟩
theorem openB_false {zs : List Int} {c b : Int} (h : ∀ j, j < zs.length → hpB (zs.getD j 0) c b = false) : openB zs c b = false := by
  unfold openB; rw [List.any_eq_false]
  intro x hx
  obtain ⟨j, hj, rfl⟩ := List.getElem_of_mem hx
  have := h j hj
  rw [getD_lt hj] at this
  simp [this]
end Go.Proofs.YtgebplpbnaeckaaGreatDoor

/- Bit: An answer of a judgment to an issue, in the model. -/
namespace Go.Proofs.YtgebplpbnaeckaaGreatDoor
open Go.RowKit Go.Joins

/-- the answer of a judgment to an issue -/
def bitN (x j : Nat) : Nat := x / 2 ^ j % 2
theorem bitN_le (x j : Nat) : bitN x j ≤ 1 := by unfold bitN; omega
theorem bit_any (x j : Nat) (w : World) (hx : x < 16) (hj : j ≤ 4) : Calls Tryz.prog 46 #[.int .i64 x, .int .i64 j] w fun e w' => e = .returned (.int .i64 (bitN x j : Nat)) ∧ w = w' := by
  have h0 : pw 0 = 1 := rfl
  have h1 : pw 1 = 2 := rfl
  have h2 : pw 2 = 4 := rfl
  have h3 : pw 3 = 8 := rfl
  have h4 : pw 4 = 16 := rfl
  rcases (show j = 0 ∨ j = 1 ∨ j = 2 ∨ j = 3 ∨ j = 4 from by omega) with rfl | rfl | rfl | rfl | rfl
  all_goals
    go_enter Tryz.func46, Tryz.ntmps46
    go_wp2_with (go_at_call 45; refine (power_any _ _ (by omega) (by omega)).mono ?_; rintro e w' ⟨rfl, rfl⟩)
    go_ret
    exact ⟨ret_int (by unfold bitN; omega), rfl⟩
theorem bitI_any (x : Int) (j : Nat) (w : World) (hx : 0 ≤ x ∧ x ≤ 15) (hj : j ≤ 4) : Calls Tryz.prog 46 #[.int .i64 x, .int .i64 j] w fun e w' => e = .returned (.int .i64 (bitN x.toNat j : Nat)) ∧ w = w' := by
  obtain ⟨y, rfl⟩ := Int.eq_ofNat_of_zero_le hx.1
  exact bit_any y j w (by omega) hj
/-- the same, of any issue in range -/
theorem bit01_any (x : Nat) (j : Int) (w : World) (hx : x < 16) (hj : 0 ≤ j ∧ j ≤ 4) : Calls Tryz.prog 46 #[.int .i64 x, .int .i64 j] w fun e w' => ∃ b : Nat, b ≤ 1 ∧ e = .returned (.int .i64 b) ∧ w = w' := by
  obtain ⟨j, rfl⟩ := Int.eq_ofNat_of_zero_le hj.1
  exact (bit_any x j w hx (by omega)).mono fun _ _ ⟨he, hw⟩ => ⟨_, bitN_le x j, he, hw⟩
end Go.Proofs.YtgebplpbnaeckaaGreatDoor

/- CrM: Critical parts: plain mathematics; nothing of the program. -/
namespace Go.Proofs.YtgebplpbnaeckaaGreatDoor
open Go.RowKit Go.Joins

/-- all parts of judgments about n issues, by the number of issues, then by the issues, then by the answers -/
def ordC (s c : Nat) : List (Nat × Nat) := if wt c = s then ((List.range (c + 1)).filter fun b => b &&& c == b).map fun b => (c, b) else []
def ordS (n s : Nat) : List (Nat × Nat) := (List.range (2 ^ n)).flatMap (ordC s)
def ordL (n : Nat) : List (Nat × Nat) := (List.range (n + 1)).flatMap (ordS n)
/-- whether the part m is a part of q -/
def subP (m q : Nat × Nat) : Bool := (m.1 &&& q.1 == m.1) && (q.2 &&& m.1 == m.2)
def opn (zs : List Int) (p : Nat × Nat) : Bool := openB zs (p.1 : Int) (p.2 : Int)
/-- a part without the answer to an issue -/
def lessP (j : Nat) (p : Nat × Nat) : Nat × Nat := (p.1 - 2 ^ j, p.2 - (p.2 &&& 2 ^ j))
/-- whether a part is critical -/
def crB (n : Nat) (zs : List Int) (p : Nat × Nat) : Bool := !opn zs p && (List.range n).all fun j => bitN p.1 j == 0 || opn zs (lessP j p)
/-- the critical parts -/
def critL (n : Nat) (zs : List Int) : List (Nat × Nat) := (ordL n).filter (crB n zs)

theorem subP_iff {m q : Nat × Nat} : subP m q = true ↔ m.1 &&& q.1 = m.1 ∧ q.2 &&& m.1 = m.2 := by
  unfold subP; rw [Bool.and_eq_true, beq_iff_eq, beq_iff_eq]
theorem hp_nat (x : Int) (c b : Nat) : hpB x (c : Int) (b : Int) = (x.toNat &&& c == b) := by
  unfold hpB; rw [Int.toNat_natCast, Int.toNat_natCast]
theorem opn_iff {zs : List Int} {p : Nat × Nat} : opn zs p = true ↔ ∃ x ∈ zs, x.toNat &&& p.1 = p.2 := by
  unfold opn openB
  rw [List.any_eq_true]
  simp only [hp_nat, beq_iff_eq]
theorem opn_sub {zs : List Int} {m q : Nat × Nat} (h : subP m q = true) (ho : opn zs q = true) : opn zs m = true := by
  rw [subP_iff] at h
  rw [opn_iff] at ho ⊢
  obtain ⟨x, hx, e⟩ := ho
  refine ⟨x, hx, ?_⟩
  rw [← h.2, ← e, Nat.and_assoc, Nat.and_comm q.1 m.1, h.1]
theorem subP_trans {a b c : Nat × Nat} (h1 : subP a b = true) (h2 : subP b c = true) : subP a c = true := by
  rw [subP_iff] at *
  refine ⟨?_, ?_⟩
  · rw [← h1.1, Nat.and_assoc, h2.1]
  · rw [← h1.2, ← h2.2, Nat.and_assoc, Nat.and_comm b.1 a.1, h1.1]
def range5 (p : Nat → Bool) : Bool := p 0 && p 1 && p 2 && p 3 && p 4
theorem range5_of {p : Nat → Bool} (h : range5 p = true) {n : Nat} (hn : n ≤ 4) : p n = true := by
  unfold range5 at h
  simp only [Bool.and_eq_true] at h
  obtain ⟨⟨⟨⟨h0, h1⟩, h2⟩, h3⟩, h4⟩ := h
  rcases (show n = 0 ∨ n = 1 ∨ n = 2 ∨ n = 3 ∨ n = 4 from by omega) with rfl | rfl | rfl | rfl | rfl <;> assumption
set_option maxRecDepth 100000 in
theorem ord_chk : range5 (fun n => (ordL n).all fun p => decide (p.1 < 2 ^ n) && (p.2 &&& p.1 == p.2) && subP p p && (List.range n).all fun j => bitN p.1 j == 0 || ((ordL n).contains (lessP j p) && decide (wt (lessP j p).1 < wt p.1) && subP (lessP j p) p && (lessP j p != p))) = true := by decide +kernel
set_option maxRecDepth 100000 in
theorem sub_chk : range5 (fun n => (ordL n).all fun p => (ordL n).all fun m => !subP m p || m == p || (decide (wt m.1 < wt p.1) && (List.range n).any fun j => bitN p.1 j == 1 && subP m (lessP j p))) = true := by decide +kernel
set_option maxRecDepth 100000 in
theorem ord_sorted : range5 (fun n => decide ((ordL n).Pairwise fun p q => wt p.1 ≤ wt q.1)) = true := by decide +kernel
set_option maxRecDepth 100000 in
theorem ord_nodup : range5 (fun n => decide ((ordL n).Nodup)) = true := by decide +kernel
theorem ord_facts {n : Nat} (hn : n ≤ 4) {p : Nat × Nat} (hp : p ∈ ordL n) : p.1 < 2 ^ n ∧ p.2 &&& p.1 = p.2 ∧ subP p p = true ∧ ∀ j, j < n → bitN p.1 j = 1 → lessP j p ∈ ordL n ∧ wt (lessP j p).1 < wt p.1 ∧ subP (lessP j p) p = true ∧ lessP j p ≠ p := by
  have h := range5_of ord_chk hn
  rw [List.all_eq_true] at h
  have h1 := h p hp
  simp only [Bool.and_eq_true, decide_eq_true_eq, beq_iff_eq] at h1
  obtain ⟨⟨⟨a, b⟩, c⟩, d⟩ := h1
  refine ⟨a, b, c, fun j hj hb => ?_⟩
  rw [List.all_eq_true] at d
  have h2 := d j (List.mem_range.2 hj)
  rw [hb] at h2
  simp only [Bool.or_eq_true, Bool.and_eq_true, decide_eq_true_eq, List.contains_iff_mem, bne_iff_ne] at h2
  rcases h2 with h2 | ⟨⟨⟨h3, h4⟩, h5⟩, h6⟩
  · simp at h2
  · exact ⟨h3, h4, h5, h6⟩
theorem sub_facts {n : Nat} (hn : n ≤ 4) {p m : Nat × Nat} (hp : p ∈ ordL n) (hm : m ∈ ordL n) (hs : subP m p = true) (hne : m ≠ p) : wt m.1 < wt p.1 ∧ ∃ j, j < n ∧ bitN p.1 j = 1 ∧ subP m (lessP j p) = true := by
  have h := range5_of sub_chk hn
  rw [List.all_eq_true] at h
  have h1 := h p hp
  rw [List.all_eq_true] at h1
  have h2 := h1 m hm
  rw [hs] at h2
  simp only [Bool.not_true, Bool.false_or, Bool.or_eq_true, Bool.and_eq_true, beq_iff_eq, decide_eq_true_eq, List.any_eq_true, List.mem_range] at h2
  rcases h2 with h2 | ⟨h3, j, h4, h5, h6⟩
  · exact absurd h2 hne
  · exact ⟨h3, j, h4, h5, h6⟩
theorem cr_iff {n : Nat} {zs : List Int} {p : Nat × Nat} : crB n zs p = true ↔ opn zs p = false ∧ ∀ j, j < n → bitN p.1 j = 1 → opn zs (lessP j p) = true := by
  unfold crB
  rw [Bool.and_eq_true, Bool.not_eq_true', List.all_eq_true]
  constructor
  · rintro ⟨h1, h2⟩
    refine ⟨h1, fun j hj hb => ?_⟩
    have h3 := h2 j (List.mem_range.2 hj)
    rw [hb] at h3
    simpa using h3
  · rintro ⟨h1, h2⟩
    refine ⟨h1, fun j hj => ?_⟩
    rw [List.mem_range] at hj
    have hle := bitN_le p.1 j
    rcases (show bitN p.1 j = 0 ∨ bitN p.1 j = 1 from by omega) with e | e
    · rw [e]; rfl
    · rw [h2 j hj e, Bool.or_true]
/-- what is closed has a critical part -/
theorem cr_ex {n : Nat} (hn : n ≤ 4) (zs : List Int) : ∀ (k : Nat) (p : Nat × Nat), p ∈ ordL n → wt p.1 ≤ k → opn zs p = false → ∃ m ∈ ordL n, crB n zs m = true ∧ subP m p = true
  | k, p, hp, hk, ho => by
    have hf := ord_facts hn hp
    by_cases hc : crB n zs p = true
    · exact ⟨p, hp, hc, hf.2.2.1⟩
    · have hx : ∃ j, j < n ∧ bitN p.1 j = 1 ∧ opn zs (lessP j p) = false := by
        refine Classical.byContradiction fun hno => hc ?_
        rw [cr_iff]
        refine ⟨ho, fun j hj hb => ?_⟩
        rcases Bool.eq_false_or_eq_true (opn zs (lessP j p)) with h | h
        · exact h
        · exact absurd ⟨j, hj, hb, h⟩ hno
      obtain ⟨j, hj, hb, hlo⟩ := hx
      obtain ⟨h1, h2, h3, _⟩ := hf.2.2.2 j hj hb
      match k, hk with
      | 0, hk => omega
      | k + 1, hk =>
        obtain ⟨m, hm, hcm, hsm⟩ := cr_ex hn zs k (lessP j p) h1 (by omega) hlo
        exact ⟨m, hm, hcm, subP_trans hsm h3⟩
/-- a critical part has no other one that is closed -/
theorem cr_least {n : Nat} (hn : n ≤ 4) {zs : List Int} {p m : Nat × Nat} (hp : p ∈ ordL n) (hm : m ∈ ordL n) (hc : crB n zs p = true) (ho : opn zs m = false) (hs : subP m p = true) : m = p := by
  refine Classical.byContradiction fun hne => ?_
  obtain ⟨_, j, hj, hb, h1⟩ := sub_facts hn hp hm hs hne
  have h2 := (cr_iff.1 hc).2 j hj hb
  rw [opn_sub h1 h2] at ho
  cases ho
/-- whether a part is still there when the first k have had their turns -/
def stillB (n : Nat) (zs : List Int) (k : Nat) (q : Nat × Nat) : Bool := (ordL n).contains q && !opn zs q && ((ordL n).take k).all fun m => !(crB n zs m && subP m q) || m == q
theorem still_turn {n : Nat} (hn : n ≤ 4) {zs : List Int} {k : Nat} (hk : k < (ordL n).length) : stillB n zs k (ordL n)[k] = crB n zs (ordL n)[k] := by
  have hp : (ordL n)[k] ∈ ordL n := List.getElem_mem hk
  obtain ⟨p, hpe⟩ : ∃ p, p = (ordL n)[k] := ⟨_, rfl⟩
  rw [← hpe] at hp ⊢
  rw [Bool.eq_iff_iff]
  unfold stillB
  rw [Bool.and_eq_true, Bool.and_eq_true, Bool.not_eq_true', List.contains_iff_mem, List.all_eq_true]
  constructor
  · rintro ⟨⟨_, ho⟩, hall⟩
    obtain ⟨m, hm, hcm, hsm⟩ := cr_ex hn zs (wt p.1) p hp (Nat.le_refl _) ho
    by_cases e : m = p
    · rw [← e]; exact hcm
    · exfalso
      have hwt := (sub_facts hn hp hm hsm e).1
      obtain ⟨i, hi, hie⟩ := List.getElem_of_mem hm
      have hik : i < k := by
        rcases Nat.lt_trichotomy i k with h | h | h
        · exact h
        · exfalso; subst h; rw [hpe] at e; exact e hie.symm
        · exfalso
          have hs := range5_of ord_sorted hn
          rw [decide_eq_true_eq, List.pairwise_iff_getElem] at hs
          have := hs k i hk hi h
          rw [hie, ← hpe] at this
          omega
      have hmt : m ∈ (ordL n).take k := by
        rw [← hie]
        exact List.mem_take_iff_getElem.2 ⟨i, by omega, rfl⟩
      have := hall m hmt
      rw [hcm, hsm] at this
      simp only [Bool.and_self, Bool.not_true, Bool.false_or, beq_iff_eq] at this
      exact e this
  · intro hc
    refine ⟨⟨hp, (cr_iff.1 hc).1⟩, fun m hm => ?_⟩
    have hm' : m ∈ ordL n := List.mem_of_mem_take hm
    rcases Bool.eq_false_or_eq_true (crB n zs m && subP m p) with h | h
    · rw [h]
      rw [Bool.and_eq_true] at h
      rw [cr_least hn hp hm' hc (cr_iff.1 h.1).1 h.2]
      simp
    · rw [h]; rfl
theorem take_all {α : Type} (l : List α) (p : α → Bool) {k : Nat} (hk : k < l.length) : (l.take (k + 1)).all p = ((l.take k).all p && p l[k]) := by
  rw [List.take_add_one, List.getElem?_eq_getElem hk, List.all_append]
  simp
theorem still_zero {n : Nat} {zs : List Int} {q : Nat × Nat} : stillB n zs 0 q = ((ordL n).contains q && !opn zs q) := by
  unfold stillB; simp
theorem still_no {n : Nat} {zs : List Int} {k : Nat} {q : Nat × Nat} (hk : k < (ordL n).length) (h : crB n zs (ordL n)[k] = false) : stillB n zs (k + 1) q = stillB n zs k q := by
  unfold stillB
  rw [take_all _ _ hk, h]; simp
theorem still_yes {n : Nat} {zs : List Int} {k : Nat} {q : Nat × Nat} (hk : k < (ordL n).length) (h : crB n zs (ordL n)[k] = true) : stillB n zs (k + 1) q = (stillB n zs k q && !(subP (ordL n)[k] q && q != (ordL n)[k])) := by
  unfold stillB
  rw [take_all _ _ hk, h]
  obtain ⟨p, hpe⟩ : ∃ p, p = (ordL n)[k] := ⟨_, rfl⟩
  rw [← hpe, ← Bool.and_assoc]
  congr 1
  rcases Bool.eq_false_or_eq_true (subP p q) with h1 | h1
  · rw [h1]
    by_cases e : p = q
    · subst e; simp
    · have e2 : ¬ q = p := fun h => e h.symm
      have e3 : (p == q) = false := by simpa using e
      have e4 : (q != p) = true := by simpa using e2
      rw [e3, e4]; rfl
  · rw [h1]; simp
theorem filter_takeP (n : Nat) (zs : List Int) {k : Nat} (hk : k < (ordL n).length) : ((ordL n).take (k + 1)).filter (crB n zs) = ((ordL n).take k).filter (crB n zs) ++ (if crB n zs (ordL n)[k] = true then [(ordL n)[k]] else []) := by
  rw [List.take_add_one, List.getElem?_eq_getElem hk, List.filter_append]
  by_cases h : crB n zs (ordL n)[k] = true <;> simp [h]
end Go.Proofs.YtgebplpbnaeckaaGreatDoor
