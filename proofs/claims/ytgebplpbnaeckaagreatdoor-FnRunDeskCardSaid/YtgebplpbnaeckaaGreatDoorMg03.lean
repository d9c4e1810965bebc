/- Texts of this seat one behind the other: SV, Sp, Part, Pairs. Conditions: none. -/
import Derived.Test.YtgebplpbnaeckaaGreatDoorMg01
import Derived.OwnWalk
import Derived.Deep.RegionWith
import Derived.Deep.RegionHeld3
import Derived.Deep.QuietTactic
import Derived.BigQuiet
import Derived.Deep.DeepCutAuto

/- SV: A space in a variable with the numbers beside it; lists that a call gives. -/
namespace Go.Proofs.YtgebplpbnaeckaaGreatDoor
open Go.RowKit Go.Joins

/-- A variable of a part's type: its two cells. -/
def PBox (w : World) (g : Nat) (c b : Int) : Prop := g < w.heap.size ∧ w.cell? ⟨g, 0, none⟩ = some (.int .i64 c) ∧ w.cell? ⟨g, 1, none⟩ = some (.int .i64 b)
theorem PBox.below {w w' : World} {g : Nat} {c b : Int} (h : PBox w g c b) (hb : Below w.heap.size w w') : PBox w' g c b :=
  ⟨Nat.lt_of_lt_of_le h.1 hb.size, (hb.cell (p := ⟨g, 0, none⟩) h.1).trans h.2.1, (hb.cell (p := ⟨g, 1, none⟩) h.1).trans h.2.2⟩
theorem PBox.new (w : World) (c b : Int) (t : TypeId) : PBox (w.alloc (.cells #[.int .i64 c, .int .i64 b] t)) w.heap.size c b :=
  ⟨by simp, by simp [go_sem], by simp [go_sem]⟩

theorem filter_take (p : Int → Bool) (zs : List Int) (k : Nat) (hk : k < zs.length) : (zs.take (k + 1)).filter p = (zs.take k).filter p ++ (if p zs[k] then [zs[k]] else []) := by
  rw [List.take_add_one, List.getElem?_eq_getElem hk, List.filter_append]
  by_cases h : p zs[k] = true <;> simp [h]
theorem filter_le (p : Int → Bool) (zs : List Int) (k : Nat) : ((zs.take k).filter p).length ≤ k := Nat.le_trans (List.length_filter_le _ _) (List.length_take_le _ _)
/-- An element more. -/
theorem Owns.push {w : World} {base : Nat} {v : Value} {ys : List Int} {z : Int} (h : w.ownsRow base 3 1 v (ys.length + 1) (ys.map (Value.int .i64) ++ [.int .i64 z])) : Owns w base v (ys ++ [z]) := by
  unfold Owns; simpa using h

/-- An owned list, and nothing old has turned. -/
def Gives (zs : List Int) (w : World) (e : Ending) (w' : World) : Prop := ∃ v, e = .returned v ∧ Owns w' w.heap.size v zs ∧ Below w.heap.size w w'
theorem gives_nil {zs : List Int} {w w' : World} (h : zs = []) (hb : Below w.heap.size w w') : Gives zs w (.returned (.slice none 0 0)) w' := by
  subst h
  exact ⟨_, rfl, World.ownsRow_nil _ _ _ _, hb⟩

/-- What a call that only reads needs of a space in a variable, in whatever world. -/
def SV (w0 : World) (n : Int) (a : Option Addr) (zs : List Int) (cap : Nat) (l : Option Addr) (ls : List Int) (wx : World) : Prop :=
  Box wx w0.heap.size n a zs.length cap ∧ Ints wx a zs ∧ Ints wx l ls ∧ Below w0.heap.size w0 wx
theorem SV.below {w0 wx wy : World} {n : Int} {a : Option Addr} {zs : List Int} {cap : Nat} {l : Option Addr} {ls : List Int} (h : SV w0 n a zs cap l ls wx) (hb : Below wx.heap.size wx wy) : SV w0 n a zs cap l ls wy :=
  ⟨h.1.below hb, h.2.1.below hb, h.2.2.1.below hb, bnext h.2.2.2 hb⟩
theorem SV.drew {w0 wx : World} {n : Int} {a : Option Addr} {zs : List Int} {cap : Nat} {l : Option Addr} {ls : List Int} (h : SV w0 n a zs cap l ls wx) : SV w0 n a zs cap l ls wx.drew := h.below (bdrew' (Below.refl _ _))
theorem SV.pair {w0 wx : World} {n : Int} {a : Option Addr} {zs : List Int} {cap : Nat} {l : Option Addr} {ls : List Int} (h : SV w0 n a zs cap l ls wx) : Box wx w0.heap.size n a zs.length cap ∧ Ints wx a zs ∧ Ints wx l ls ∧ Below w0.heap.size w0 wx := h
theorem SV.new (w : World) (n : Int) (a : Option Addr) (zs : List Int) (cap : Nat) (l : Option Addr) (ls : List Int) (t : TypeId) (hi : Ints w a zs) (hj : Ints w l ls) : SV w n a zs cap l ls (w.alloc (.cells #[.int .i64 n, .slice a zs.length cap] t)) :=
  ⟨Box.new _ _ _ _ _ _, hi.below (bel1 _ _), hj.below (bel1 _ _), bel1 _ _⟩

/-- A write to a row from K on, seen from K. -/
theorem bgrown {K : Nat} {a w w' : World} {row : Option Nat} (h : Below K a w) (hg : w.grownBy w' row) (hK : K ≤ w.heap.size) (hr : ∀ k, row = some k → K ≤ k) : Below K a w' := h.grown hg hK hr
theorem own_ge {w : World} {base : Nat} {v : Value} {zs : List Int} (h : Owns w base v zs) : ∀ k, v.ownBlock = some k → base ≤ k := fun k hk => (World.ownsRow.lt h k hk).1
theorem own_lt {w : World} {base : Nat} {v : Value} {zs : List Int} (h : Owns w base v zs) : ∀ k, v.ownBlock = some k → k < w.heap.size := fun k hk => (World.ownsRow.lt h k hk).2
theorem own_kept {w w' : World} {base : Nat} {v : Value} {zs : List Int} {row : Option Nat} (h : Owns w base v zs) (hg : w.grownBy w' row) (hne : ∀ k, row = some k → v.ownBlock ≠ some k) : Owns w' base v zs := by
  refine World.ownsRow.kept h hg ?_
  rcases hr : row with _ | k
  · rcases v.ownBlock with _ | j
    · exact .inl rfl
    · exact .inr (by simp)
  · exact .inr (hne k hr)
end Go.Proofs.YtgebplpbnaeckaaGreatDoor

/- Sp: Spaces given back: what a call leaves, how a result cell is read. Nothing of the program. -/
namespace Go.Proofs.YtgebplpbnaeckaaGreatDoor
open Go.RowKit Go.Joins

theorem Owns.cap {w : World} {base n cap : Nat} {a : Option Addr} {zs : List Int} (h : Owns w base (.slice a n cap) zs) : zs.length ≤ cap := by
  obtain ⟨_, h | ⟨g, c, cur, hv, _, _, hc, _⟩⟩ := h
  · simp only [Value.slice.injEq] at h
    omega
  · simp only [Value.slice.injEq] at hv
    omega
/-- a space of its own memory -/
def GivesS (n : Int) (zs : List Int) (w : World) (e : Ending) (w' : World) : Prop := ∃ v, e = .returned (.agg #[.int .i64 n, v]) ∧ Owns w' w.heap.size v zs ∧ Below w.heap.size w w'
theorem ret_space {fn : Func} {p : Tmp} (h : fn.results = #[.cell p 37]) (tmps : Array Value) (w : World) (g : Nat) (x y : Value)
    (hp : tmps.getD p undef = .pointer (some ⟨g, 0, none⟩)) (hw : w.heap[g]? = some (.cells #[x, y] 37 (0, 0))) :
    (results fn tmps).run Tryz.prog w = .ok (.agg #[x, y]) w := by
  have c0 := cell_of_block hw 0
  have c1 := cell_of_block hw 1
  have hr : (results fn tmps).run Tryz.prog w = ((asAddr (tmps.getD p undef)).run Tryz.prog w).andThen fun a w₁ => (loadVar 37 a).run Tryz.prog w₁ := by
    simp only [results, h]
    simp [Sem.run_bind, Result.andThen]
  rw [hr, hp]
  simp [go_sem] at c0 c1 ⊢
  simp [c0, c1, go_sem]
theorem Owns.set2 {w : World} {base g : Nat} {v : Value} {zs : List Int} (h : Owns w base v zs) (hg : g < base) (x y : Value) : Owns ((w.setCell ⟨g, 0, none⟩ x).setCell ⟨g, 1, none⟩ y) base v zs :=
  (h.setBelow (p := ⟨g, 0, none⟩) hg x).setBelow (p := ⟨g, 1, none⟩) hg y
/-- what CrossSpaces gives: a space of its own memory, and whether -/
def GivesX (n : Int) (zs : List Int) (o : Bool) (w : World) (e : Ending) (w' : World) : Prop := ∃ v, e = .returned (.tuple #[.agg #[.int .i64 n, v], .bool o]) ∧ Owns w' w.heap.size v zs ∧ Below w.heap.size w w'

theorem ret_cross {fn : Func} {p u : Tmp} (h : fn.results = #[.cell p 37, .tmp u]) (tmps : Array Value) (w : World) (g : Nat) (x y : Value)
    (hp : tmps.getD p undef = .pointer (some ⟨g, 0, none⟩)) (hw : w.heap[g]? = some (.cells #[x, y] 37 (0, 0))) :
    (results fn tmps).run Tryz.prog w = .ok (.tuple #[.agg #[x, y], tmps.getD u undef]) w := by
  have c0 := cell_of_block hw 0
  have c1 := cell_of_block hw 1
  rw [results_cell_tmp h, hp]
  simp [go_sem] at c0 c1 ⊢
  simp [c0, c1, go_sem]

end Go.Proofs.YtgebplpbnaeckaaGreatDoor

/- Part: Parts: their check in the model and in the program; ValidPart. -/
namespace Go.Proofs.YtgebplpbnaeckaaGreatDoor
open Go.RowKit Go.Joins

/-- what a part of judgments about n issues is -/
def IsPt (n c b : Int) : Prop := (0 ≤ c ∧ c ≤ pw n - 1) ∧ (0 ≤ b ∧ b ≤ pw n - 1) ∧ b.toNat &&& c.toNat = b.toNat
instance (n c b : Int) : Decidable (IsPt n c b) := by unfold IsPt; infer_instance
def ptB (n c b : Int) : Bool := decide (IsPt n c b)
theorem ptB_true {n c b : Int} (h : IsPt n c b) : ptB n c b = true := by simpa [ptB] using h
theorem ptB_false {n c b : Int} (h : ¬ IsPt n c b) : ptB n c b = false := by simpa [ptB] using h


set_option maxHeartbeats 1000000 in
theorem validPart_any (n c b : Int) (a : Option Addr) (cap len : Nat) (w : World) (h0 : 0 ≤ n) (h4 : n ≤ 4) :
    Calls Tryz.prog 70 #[.agg #[.int .i64 n, .slice a len cap], .agg #[.int .i64 c, .int .i64 b]] w fun e w' => e = .returned (.bool (ptB n c b)) ∧ Below w.heap.size w w' := by
  have p1 := pw_pos n
  have p2 := pw_le n h4
  have hw : IntKind.i64.wrap (pw n - 1) = pw n - 1 := IntWalk.i64_in _ (by omega)
  by_cases hc : 0 ≤ c ∧ c ≤ pw n - 1
  · by_cases hb : 0 ≤ b ∧ b ≤ pw n - 1
    · have hand : bits .and .i64 b c = ((b.toNat &&& c.toNat : Nat) : Int) := by
        obtain ⟨x, rfl⟩ := Int.eq_ofNat_of_zero_le hc.1
        obtain ⟨y, rfl⟩ := Int.eq_ofNat_of_zero_le hb.1
        rw [and_small y x (by omega) (by omega)]; simp
      have HC := hide hc
      have HB := hide hb
      by_cases he : b.toNat &&& c.toNat = b.toNat
      · have hE : (bits .and .i64 b c == b) = true := by rw [hand, he]; simp; omega
        have HP := hide (ptB_true (n := n) (c := c) (b := b) ⟨hc, hb, he⟩)
        clear he hand hc hb
        go_enter Tryz.func70, Tryz.ntmps70
        go_wp2_with fail
        go_quiet ((first | (go_at_call 45; exact quiet_left (power_any _ _ (by omega) (by omega))) | (go_at_call_of 30 (Value.int IntKind.i64 c); exact quiet_left (inRange_yes _ _ _ _ HC.out)) | (go_at_call_of 30 (Value.int IntKind.i64 b); exact quiet_left (inRange_yes _ _ _ _ HB.out))))
        go_wp2
        go_ret
        exact ⟨ret_bool HP.out.symm, bnext (bel2 w _ _) (belN _ _)⟩
      · have hE : (bits .and .i64 b c == b) = false := by rw [hand, beq_eq_false_iff_ne]; omega
        have HP := hide (ptB_false (n := n) (c := c) (b := b) (fun h => he h.2.2))
        clear he hand hc hb
        go_enter Tryz.func70, Tryz.ntmps70
        go_wp2_with fail
        go_quiet ((first | (go_at_call 45; exact quiet_left (power_any _ _ (by omega) (by omega))) | (go_at_call_of 30 (Value.int IntKind.i64 c); exact quiet_left (inRange_yes _ _ _ _ HC.out)) | (go_at_call_of 30 (Value.int IntKind.i64 b); exact quiet_left (inRange_yes _ _ _ _ HB.out))))
        go_wp2
        go_ret
        exact ⟨ret_bool HP.out.symm, bnext (bel2 w _ _) (belN _ _)⟩
    · have HP := hide (ptB_false (n := n) (c := c) (b := b) (fun h => hb h.2.1))
      have HC := hide hc
      have HB := hide hb
      clear hc hb
      go_enter Tryz.func70, Tryz.ntmps70
      go_wp2_with fail
      go_quiet ((first | (go_at_call 45; exact quiet_left (power_any _ _ (by omega) (by omega))) | (go_at_call_of 30 (Value.int IntKind.i64 c); exact quiet_left (inRange_yes _ _ _ _ HC.out)) | (go_at_call_of 30 (Value.int IntKind.i64 b); exact quiet_left (inRange_no _ _ _ _ HB.out))))
      go_wp2
      go_ret
      exact ⟨ret_bool HP.out.symm, bnext (bel2 w _ _) (belN _ _)⟩
  · have HP := hide (ptB_false (n := n) (c := c) (b := b) (fun h => hc h.1))
    have HC := hide hc
    clear hc
    go_enter Tryz.func70, Tryz.ntmps70
    go_wp2_with fail
    go_quiet ((first | (go_at_call 45; exact quiet_left (power_any _ _ (by omega) (by omega))) | (go_at_call_of 30 (Value.int IntKind.i64 c); exact quiet_left (inRange_no _ _ _ _ HC.out))))
    go_wp2
    go_ret
    exact ⟨ret_bool HP.out.symm, bnext (bel2 w _ _) (belN _ _)⟩

theorem pt_iff {n c b : Int} (h4 : n ≤ 4) (hc : 0 ≤ c ∧ c ≤ pw n - 1) (wb : (Lit.int .i64 b).wf = true) : bits .andNot .i64 b c = 0 ↔ IsPt n c b := by
  have p2 := pw_le n h4
  obtain ⟨x, rfl⟩ := Int.eq_ofNat_of_zero_le hc.1
  rw [andNot_zero b x wb (by omega)]
  constructor
  · rintro ⟨h0, h⟩
    obtain ⟨y, rfl⟩ := Int.eq_ofNat_of_zero_le h0
    have hle : y &&& x ≤ x := Nat.and_le_right
    rw [Int.toNat_natCast] at h
    exact ⟨hc, ⟨by omega, by omega⟩, by simpa using h⟩
  · rintro ⟨_, h1, h2⟩
    exact ⟨h1.1, by simpa using h2⟩


/-- what ValidPart answers -/
def vpB (n : Int) (zs : List Int) (c b : Int) : Bool := vsB n zs && ptB n c b
theorem vpB_false {n : Int} {zs : List Int} {c b : Int} (h : vsB n zs = false) : vpB n zs c b = false := by unfold vpB; rw [h]; rfl
theorem vpB_true {n : Int} {zs : List Int} {c b : Int} (h : vsB n zs = true) : vpB n zs c b = ptB n c b := by unfold vpB; rw [h]; rfl



end Go.Proofs.YtgebplpbnaeckaaGreatDoor

/- Pairs: Slices of parts in memory; the model's SpaceWithout. -/
namespace Go.Proofs.YtgebplpbnaeckaaGreatDoor
open Go.RowKit Go.Joins

/-- A slice value whose address is a reads as the parts ps. -/
def PInts (w : World) (a : Option Addr) (ps : List (Int × Int)) : Prop :=
  0 < ps.length → ∃ b off, a = some ⟨b, off, none⟩ ∧ b < w.heap.size ∧ ∀ k, k < ps.length → w.cell? ⟨b, off + k * 2, none⟩ = some (.int .i64 (ps.getD k (0, 0)).1) ∧ w.cell? ⟨b, off + k * 2 + 1, none⟩ = some (.int .i64 (ps.getD k (0, 0)).2)
theorem PInts.below {w w' : World} {a : Option Addr} {ps : List (Int × Int)} (h : PInts w a ps) (hb : Below w.heap.size w w') : PInts w' a ps := fun hz => by
  obtain ⟨b, off, e, hlt, hc⟩ := h hz
  exact ⟨b, off, e, Nat.lt_of_lt_of_le hlt hb.size, fun k hk => ⟨(hb.cell (p := ⟨b, off + k * 2, none⟩) hlt).trans (hc k hk).1, (hb.cell (p := ⟨b, off + k * 2 + 1, none⟩) hlt).trans (hc k hk).2⟩⟩
theorem pgetD_lt {ps : List (Int × Int)} {k : Nat} (h : k < ps.length) : ps.getD k (0, 0) = ps[k] := by simp [List.getD_eq_getElem?_getD, h]

/-- none of the parts is one of x -/
def freeB (ps : List (Int × Int)) (x : Int) : Bool := ps.all fun p => !hpB x p.1 p.2
theorem freeB_take {ps : List (Int × Int)} {x : Int} {k : Nat} (hk : k < ps.length) : freeB (ps.take (k + 1)) x = (freeB (ps.take k) x && !hpB x ps[k].1 ps[k].2) := by
  unfold freeB
  rw [List.take_add_one, List.getElem?_eq_getElem hk, List.all_append]
  simp
def SwOk (n : Int) (ps : List (Int × Int)) : Prop := (1 ≤ n ∧ n ≤ 4) ∧ ps.length ≤ 10 ∧ ∀ j, j < ps.length → IsPt n (ps.getD j (0, 0)).1 (ps.getD j (0, 0)).2
instance (n : Int) (ps : List (Int × Int)) : Decidable (SwOk n ps) := by unfold SwOk; infer_instance
/-- the judgments below t that have none of the parts -/
def swK (ps : List (Int × Int)) (t : Nat) : List Int := ((List.range t).filter fun (x : Nat) => freeB ps (x : Int)).map fun (u : Nat) => (u : Int)
theorem swK_len (ps : List (Int × Int)) (t : Nat) : (swK ps t).length ≤ t := by
  unfold swK
  rw [List.length_map]
  exact Nat.le_trans (List.length_filter_le _ _) (by simp)
theorem swK_yes {ps : List (Int × Int)} {t : Nat} (h : freeB ps (t : Int) = true) : swK ps (t + 1) = swK ps t ++ [(t : Int)] := by
  unfold swK
  rw [List.range_succ, List.filter_append]
  simp [h]
theorem swK_no {ps : List (Int × Int)} {t : Nat} (h : freeB ps (t : Int) = false) : swK ps (t + 1) = swK ps t := by
  unfold swK
  rw [List.range_succ, List.filter_append]
  simp [h]
def SwYes (n : Int) (ps : List (Int × Int)) : Prop := SwOk n ps ∧ (swK ps (2 ^ n.toNat)).length ≠ 0
instance (n : Int) (ps : List (Int × Int)) : Decidable (SwYes n ps) := by unfold SwYes; infer_instance
def swN (n : Int) (ps : List (Int × Int)) : Int := if SwYes n ps then n else 0
def swL (n : Int) (ps : List (Int × Int)) : List Int := if SwYes n ps then swK ps (2 ^ n.toNat) else []
def swB (n : Int) (ps : List (Int × Int)) : Bool := decide (SwYes n ps)

theorem givesSw_no {n : Int} {ps : List (Int × Int)} {w w' : World} (h : ¬ SwYes n ps) (hb : Below w.heap.size w w') :
    GivesX (swN n ps) (swL n ps) (swB n ps) w (.returned (.tuple #[.agg #[.int .i64 0, .slice none 0 0], .bool false])) w' := by
  have e1 : swN n ps = 0 := if_neg h
  have e2 : swL n ps = [] := if_neg h
  have e3 : swB n ps = false := by simpa [swB] using h
  rw [e1, e2, e3]
  exact ⟨_, rfl, World.ownsRow_nil _ _ _ _, hb⟩
theorem pt_16 {n c b : Int} (h4 : n ≤ 4) (h : IsPt n c b) : (0 ≤ c ∧ c ≤ 15) ∧ (0 ≤ b ∧ b ≤ 15) := by
  have := pw_le n h4
  exact ⟨⟨h.1.1, by have := h.1.2; omega⟩, ⟨h.2.1.1, by have := h.2.1.2; omega⟩⟩

set_option maxHeartbeats 4000000 in
set_option maxRecDepth 100000 in
theorem specSw_any (n : Int) (l : Option Addr) (capl : Nat) (ps : List (Int × Int)) (w : World) (hj : PInts w l ps) (hm : ps.length ≤ 1048576) :
    Calls Tryz.prog 48 #[.int .i64 n, .slice l ps.length capl] w (GivesX (swN n ps) (swL n ps) (swB n ps) w) := by
  obtain ⟨i0, hi0, hz0, hz1, hz2⟩ := info_parts info_int
  have hres := heap_alloc_new w (.cells #[.int .i64 0, .slice none 0 0] 37)
  have hB1 := bel1 w (.cells #[.int .i64 0, .slice none 0 0] 37)
  have hB2 := bel2 w (.cells #[.int .i64 0, .slice none 0 0] 37) (.cells #[.int .i64 n, .slice none 0 0] 37)
  have hbx := heap_alloc_new (w.alloc (.cells #[.int .i64 0, .slice none 0 0] 37)) (.cells #[.int .i64 n, .slice none 0 0] 37)
  have hres2 : ((w.alloc (.cells #[.int .i64 0, .slice none 0 0] 37)).alloc (.cells #[.int .i64 n, .slice none 0 0] 37)).heap[w.heap.size]? = some (.cells #[.int .i64 0, .slice none 0 0] 37 (0, 0)) :=
    ((bel1 (w.alloc (.cells #[.int .i64 0, .slice none 0 0] 37)) _).block w.heap.size (by simp)).trans hres
  simp only [World.size_alloc] at hbx
  have il := hj.below hB2
  obtain ⟨W, hW⟩ : ∃ W : World, W = (w.alloc (.cells #[.int .i64 0, .slice none 0 0] 37)).alloc (.cells #[.int .i64 n, .slice none 0 0] 37) := ⟨_, rfl⟩
  have hWs : W.heap.size = w.heap.size + 1 + 1 := by rw [hW]; simp
  by_cases hn : 1 ≤ n ∧ n ≤ 4
  · have HN := hide hn
    have p1 := pw_pos n
    have p2 := pw_le n hn.2
    by_cases h10 : 10 < ps.length
    · have HNO : Hid (¬ SwYes n ps) := fun h => by have := h.1.2.1; omega
      have f0 := unfrozen_of_block hres2 0
      have f1 := unfrozen_of_block hres2 1
      have r0 := cell_of_block hres2 0
      have r1 := cell_of_block hres2 1
      clear hn
      go_enter Tryz.func48, Tryz.ntmps48
      go_wp2_with (go_at_call 30; refine (inRange_yes _ _ _ _ HN.out).mono ?_; rintro e w' ⟨rfl, rfl⟩)
      refine bodyPost_ret (ret_cross rfl _ _ _ _ _ rfl hres2) rfl ?_
      exact givesSw_no HNO.out hB2
    · have h10' : ps.length ≤ 10 := by omega
      have hp2 : pw n = ((2 ^ n.toNat : Nat) : Int) := rfl
      obtain ⟨q, hq⟩ : ∃ q, q = 2 ^ n.toNat := ⟨_, rfl⟩
      rw [← hq] at hp2
      have hq16 : q ≤ 16 := by omega
      have HQ := hide hq
      have HJ := hide hj
      have hbxW : Hid (W.heap[w.heap.size + 1]? = some (.cells #[.int .i64 n, .slice none 0 0] 37 (0, 0))) := by unfold Hid; rw [hW]; exact hbx
      have hresW : Hid (W.heap[w.heap.size]? = some (.cells #[.int .i64 0, .slice none 0 0] 37 (0, 0))) := by unfold Hid; rw [hW]; exact hres2
      have hBW : Hid (Below w.heap.size w W) := by unfold Hid; rw [hW]; exact hB2
      have hB0 : Hid (Below W.heap.size W ((w.alloc (.cells #[.int .i64 0, .slice none 0 0] 37)).alloc (.cells #[.int .i64 n, .slice none 0 0] 37))) := by unfold Hid; rw [← hW]; exact Below.refl _ _
      clear hn hq hj hbx hres hres2 hB1 hB2 il hW h10
      have HWS := hide hWs
      clear hWs
      go_enter Tryz.func48, Tryz.ntmps48
      go_wp2_with (go_at_call 30; refine (inRange_yes _ _ _ _ HN.out).mono ?_; rintro e w' ⟨rfl, rfl⟩)
      go_loopw [7] (fun i wr => ∃ k : Nat, k ≤ ps.length ∧ i = .int .i64 k ∧ (∀ j, j < k → IsPt n (ps.getD j (0, 0)).1 (ps.getD j (0, 0)).2) ∧ Below W.heap.size W wr) (fun i _ => ps.length - (intOf i).toNat)
      case atStart => exact ⟨0, Nat.zero_le _, rfl, fun j hj => by omega, hB0.out⟩
      case round =>
        obtain ⟨k, hk, rfl, hall, BR⟩ := hrel
        have HA := hide hall
        have hbx := (BR.block _ (lt_of_block hbxW.out)).trans hbxW.out
        have hres := (BR.block _ (lt_of_block hresW.out)).trans hresW.out
        have BRw := hide (bnext hBW.out BR)
        have c0 := cell_of_block hbx 0
        have c1 := cell_of_block hbx 1
        have hbl0 := lt_of_block hbx
        clear hall
        by_cases hlt : k < ps.length
        · obtain ⟨b, off, rfl, hbl, hc⟩ := (HJ.out.below BRw.out) (by omega)
          obtain ⟨h1, h2⟩ := hc k hlt
          rw [pgetD_lt hlt] at h1 h2
          obtain ⟨pc, hpc⟩ : ∃ pc, pc = ps[k].1 := ⟨_, rfl⟩
          obtain ⟨pb, hpb⟩ : ∃ pb, pb = ps[k].2 := ⟨_, rfl⟩
          rw [← hpc] at h1
          rw [← hpb] at h2
          have HPC := hide hpc
          have HPB := hide hpb
          have HRS := hide hres
          have BRH := hide BR
          clear hc hpc hpb hbx hres BR
          by_cases he : ptB n pc pb = true
          · have HE := hide he
            go_upto_region 7 with fail
            go_region_held3 (fun w' => w'.cell? ⟨w.heap.size + 1, 0, none⟩ = some (.int .i64 n) ∧ w'.cell? ⟨w.heap.size + 1, 1, none⟩ = some (.slice none 0 0) ∧ w'.cell? ⟨b, off + k * 2, none⟩ = some (.int .i64 pc) ∧ w'.cell? ⟨b, off + k * 2 + 1, none⟩ = some (.int .i64 pb))
              (first
                | exact ⟨c0, c1, h1, h2⟩
                | exact ⟨((bdrew hb3).cell (p := ⟨w.heap.size + 1, 0, none⟩) hbl0).trans c0, ((bdrew hb3).cell (p := ⟨w.heap.size + 1, 1, none⟩) hbl0).trans c1, ((bdrew hb3).cell (p := ⟨b, off + k * 2, none⟩) hbl).trans h1, ((bdrew hb3).cell (p := ⟨b, off + k * 2 + 1, none⟩) hbl).trans h2⟩
                | go_keep)
              (first
                | (go_at_call 70; refine (validPart_any n pc pb _ _ _ _ (by have := HN.out; omega) (by have := HN.out; omega)).mono ?_; rintro e w3 ⟨rfl, hb3⟩; rw [HE.out])
                | fail)
            go_wp2
            go_roundw
            case rel => exact ⟨k + 1, by omega, by go_num, fun j hj => by
              rcases Nat.lt_or_ge j k with h | h
              · exact HA.out j h
              · obtain rfl : j = k := by omega
                rw [pgetD_lt hlt, ← HPC.out, ← HPB.out]
                simpa [ptB] using HE.out, bnext BRH.out (bdrew hb3)⟩
            case measure => simp only [intOf]; omega
          · have he : ptB n pc pb = false := by simpa using he
            have HE := hide he
            have HNO : Hid (¬ SwYes n ps) := fun h => by
              have h3 := h.1.2.2 k hlt
              rw [pgetD_lt hlt, ← HPC.out, ← HPB.out] at h3
              rw [ptB_true h3] at he
              cases he
            go_upto_region 7 with fail
            go_region_held3 (fun w' => w'.cell? ⟨w.heap.size + 1, 0, none⟩ = some (.int .i64 n) ∧ w'.cell? ⟨w.heap.size + 1, 1, none⟩ = some (.slice none 0 0) ∧ w'.cell? ⟨b, off + k * 2, none⟩ = some (.int .i64 pc) ∧ w'.cell? ⟨b, off + k * 2 + 1, none⟩ = some (.int .i64 pb))
              (first
                | exact ⟨c0, c1, h1, h2⟩
                | exact ⟨((bdrew hb3).cell (p := ⟨w.heap.size + 1, 0, none⟩) hbl0).trans c0, ((bdrew hb3).cell (p := ⟨w.heap.size + 1, 1, none⟩) hbl0).trans c1, ((bdrew hb3).cell (p := ⟨b, off + k * 2, none⟩) hbl).trans h1, ((bdrew hb3).cell (p := ⟨b, off + k * 2 + 1, none⟩) hbl).trans h2⟩
                | go_keep)
              (first
                | (go_at_call 70; refine (validPart_any n pc pb _ _ _ _ (by have := HN.out; omega) (by have := HN.out; omega)).mono ?_; rintro e w3 ⟨rfl, hb3⟩; rw [HE.out])
                | fail)
            have hres3 := ((bdrew hb3).block _ (lt_of_block HRS.out)).trans HRS.out
            have f0 := unfrozen_of_block hres3 0
            have f1 := unfrozen_of_block hres3 1
            have r0 := cell_of_block hres3 0
            have r1 := cell_of_block hres3 1
            have HR3 := hide hres3
            clear hres3
            go_wp2
            refine bodyPost_ret (ret_cross rfl _ _ _ _ _ rfl (block_setCell (i := 1) (block_setCell (i := 0) HR3.out _) _)) rfl ?_
            exact givesSw_no HNO.out (((bnext BRw.out (bdrew hb3)).setCell (p := ⟨w.heap.size, 0, none⟩) (Nat.le_refl _) _).setCell (p := ⟨w.heap.size, 1, none⟩) (Nat.le_refl _) _)
        · obtain rfl : k = ps.length := by omega
          have HOK : Hid (SwOk n ps) := ⟨HN.out, h10', HA.out⟩
          have HBX := hide hbx
          have HRS := hide hres
          clear hbx hres c0 c1 BR hbl0
          go_wp2_with fail
          go_loopw [8] (fun v wq => ∃ (t : Nat) (vv : Value), t ≤ q ∧ v = .int .i64 t ∧ wq.heap[w.heap.size + 1]? = some (.cells #[.int .i64 n, vv] 37 (0, 0)) ∧ Owns wq W.heap.size vv (swK ps t) ∧ wq.heap[w.heap.size]? = some (.cells #[.int .i64 0, .slice none 0 0] 37 (0, 0)) ∧ Below w.heap.size w wq) (fun v _ => q - (intOf v).toNat)
          case atStart => exact ⟨0, _, Nat.zero_le _, rfl, HBX.out, World.ownsRow_nil _ _ _ _, HRS.out, BRw.out⟩
          case round =>
            clear HBX HRS BRw
            obtain ⟨t, vv, ht, rfl, hnb, hown, hres, BQ⟩ := hrel
            have il := HJ.out.below BQ
            have HNB := hide hnb
            have HOWN := hide hown
            have HRS := hide hres
            have BQH := hide BQ
            obtain ⟨wo, hwo⟩ : ∃ wo : World, wo = wr := ⟨_, rfl⟩
            subst hwo
            clear hnb hown hres BQ
            by_cases hlt : t < q
            · go_wp2_with (go_at_call 45; refine (power_any _ _ (by have := HN.out; omega) (by have := HN.out; omega)).mono ?_; rintro e w' ⟨rfl, rfl⟩)
              go_loopw [9, 10] (fun b v wq => ∃ (j : Nat) (B : Bool), j ≤ ps.length ∧ v = .int .i64 j ∧ b = .bool B ∧ B = freeB (ps.take j) t ∧ Below wo.heap.size wo wq) (fun _ v _ => ps.length - (intOf v).toNat)
              case atStart => exact ⟨0, true, Nat.zero_le _, rfl, rfl, rfl, Below.refl _ _⟩
              case round =>
                obtain ⟨j, B, hj, rfl, rfl, hB, BI⟩ := hrel
                have HB := hide hB
                clear hB
                by_cases hlj : j < ps.length
                · have hft := hide (freeB_take (x := (t : Int)) hlj)
                  obtain ⟨b, off, rfl, hbl, hc⟩ := (il.below BI) (by omega)
                  obtain ⟨h1, h2⟩ := hc j hlj
                  rw [pgetD_lt hlj] at h1 h2
                  have hpt := HOK.out.2.2 j hlj
                  rw [pgetD_lt hlj] at hpt
                  have hp16 := pt_16 HN.out.2 hpt
                  have hand := hp_and (x := (t : Int)) ⟨by omega, by omega⟩ hp16.1 hp16.2.1
                  clear hc hpt hp16
                  cases B with
                  | false =>
                    go_wp2
                    go_quiet (fail)
                    go_wp2
                    go_roundw
                    case rel => exact ⟨j + 1, false, by omega, by go_num, rfl, by rw [hft.out, ← HB.out]; rfl, bnext BI (belN _ _)⟩
                    case measure => simp only [intOf]; omega
                  | true =>
                    by_cases he : hpB t ps[j].1 ps[j].2 = true
                    · have hE : (bits .and .i64 (t : Int) ps[j].1 != ps[j].2) = false := by unfold bne; rw [hand, he]; rfl
                      have HE := hide he
                      clear he hand
                      go_wp2
                      go_quiet (fail)
                      go_wp2
                      go_roundw
                      case rel => exact ⟨j + 1, false, by omega, by go_num, rfl, by rw [hft.out, ← HB.out, HE.out]; rfl, bnext BI (belN _ _)⟩
                      case measure => simp only [intOf]; omega
                    · have he : hpB t ps[j].1 ps[j].2 = false := by simpa using he
                      have hE : (bits .and .i64 (t : Int) ps[j].1 != ps[j].2) = true := by unfold bne; rw [hand, he]; rfl
                      have HE := hide he
                      clear he hand
                      go_wp2
                      go_quiet (fail)
                      go_wp2
                      go_roundw
                      case rel => exact ⟨j + 1, true, by omega, by go_num, rfl, by rw [hft.out, ← HB.out, HE.out]; rfl, bnext BI (belN _ _)⟩
                      case measure => simp only [intOf]; omega
                · obtain rfl : j = ps.length := by omega
                  have hBt : B = freeB ps t := by have := HB.out; rwa [List.take_length] at this
                  have hnb := (BI.block _ (lt_of_block HNB.out)).trans HNB.out
                  have hown := HOWN.out.below BI
                  have hres := (BI.block _ (lt_of_block HRS.out)).trans HRS.out
                  have BQ := bnext BQH.out BI
                  have hgl := swK_len ps t
                  cases B with
                  | false =>
                    have HNO := hide (swK_no hBt.symm)
                    have HN2 := hide hnb
                    have HO2 := hide hown
                    have HR2 := hide hres
                    clear hBt hnb hown hres HB
                    go_wp2
                    go_roundw
                    case rel => exact ⟨t + 1, vv, by omega, by go_num, HN2.out, by rw [HNO.out]; exact HO2.out, HR2.out, BQ⟩
                    case measure => simp only [intOf]; omega
                  | true =>
                    have HYES := hide (swK_yes hBt.symm)
                    have g1 := cell_of_block hnb 1
                    have f1 := unfrozen_of_block hnb 1
                    have HN2 := hide hnb
                    have HR2 := hide hres
                    have hnl := lt_of_block hnb
                    have hws : W.heap.size ≤ wr.heap.size := by have := HWS.out; omega
                    clear hBt hnb hres HB
                    go_wp2_with ((at_builtin; refine wpList_append_own _ rfl _ _ 35 rfl W.heap.size 3 i0 (.int .i64 0) 1 8 Tryz.underlying35 hi0 hz0 hz1 hz2 rfl (by decide) _ _ _ rfl (hown.alloc _) ⟨wr.heap.size, 0, none⟩ 1 1 [.int .i64 t] rfl rfl ?c1 ?c2 ?c3 ?c4 ?c5 ?_))
                    case c1 => exact cell_one_new wr _ _
                    case c2 => intro u hu; simp at hu; subst hu; rfl
                    case c3 => unfold maxLen; omega
                    case c4 => omega
                    case c5 => simp; omega
                    intro v' w5 hown' hgrow _
                    have hpush0 := Owns.push hown'
                    obtain ⟨zz, hzz⟩ : ∃ zz : List Int, zz = swK ps t ++ [(t : Int)] := ⟨_, rfl⟩
                    rw [← hzz] at hpush0
                    have HZZ := hide (HYES.out.trans hzz.symm)
                    clear hzz hown'
                    obtain ⟨av', cv', rfl, _, _⟩ := hpush0.form
                    have hpush := hide hpush0
                    have hb5 : Below W.heap.size wr w5 := ((Below.refl _ _).alloc (by omega) _).grown hgrow (by simp; omega) (fun j hj => own_ge hown j hj)
                    have hlw : w.heap.size + 1 < W.heap.size := by have := HWS.out; omega
                    have hnb5 := (hb5.block (w.heap.size + 1) hlw).trans HN2.out
                    have hres5 := (hb5.block w.heap.size (by omega)).trans HR2.out
                    have f5 := unfrozen_of_block hnb5 1
                    have g5 := cell_of_block hnb5 1
                    have HN5 := hide hnb5
                    have HR5 := hide hres5
                    have B5 := hide ((BQ.trans (hb5.mono (by omega))).setCell (p := ⟨w.heap.size + 1, 1, none⟩) (by show w.heap.size ≤ w.heap.size + 1; omega) (.slice av' zz.length cv'))
                    have HLW := hide hlw
                    clear hpush0 hgrow hown g1 f1 hnb5 hres5 hb5 hlw hws
                    go_wp2
                    go_roundw
                    case rel => exact ⟨t + 1, _, by omega, by go_num, block_setCell (i := 1) HN5.out _, by rw [HZZ.out]; exact hpush.out.setBelow (p := ⟨w.heap.size + 1, 1, none⟩) HLW.out _, (Below.heap_setCell _ _ _ _ (by show w.heap.size ≠ w.heap.size + 1; omega)).trans HR5.out, B5.out⟩
                    case measure => simp only [intOf]; omega
            · obtain rfl : t = q := by omega
              have hown := HOWN.out
              obtain ⟨av, cv, rfl, iv, _⟩ := hown.form
              have g0 := cell_of_block HNB.out 0
              have g1 := cell_of_block HNB.out 1
              have f0 := unfrozen_of_block HRS.out 0
              have f1 := unfrozen_of_block HRS.out 1
              have r0 := cell_of_block HRS.out 0
              have r1 := cell_of_block HRS.out 1
              by_cases hz : (swK ps t).length = 0
              · have hZ : (((swK ps t).length : Int) == 0) = true := by rw [hz]; rfl
                have HNO : Hid (¬ SwYes n ps) := fun h => h.2 (by rw [← HQ.out]; exact hz)
                clear hz
                go_wp2_with (go_at_call 45; refine (power_any _ _ (by have := HN.out; omega) (by have := HN.out; omega)).mono ?_; rintro e w' ⟨rfl, rfl⟩)
                refine bodyPost_ret (ret_cross rfl _ _ _ _ _ rfl (block_setCell (i := 1) (block_setCell (i := 0) HRS.out _) _)) rfl ?_
                exact givesSw_no HNO.out ((BQH.out.setCell (p := ⟨w.heap.size, 0, none⟩) (Nat.le_refl _) _).setCell (p := ⟨w.heap.size, 1, none⟩) (Nat.le_refl _) _)
              · have hZ : (((swK ps t).length : Int) == 0) = false := by rw [beq_eq_false_iff_ne]; omega
                have HYS : Hid (SwYes n ps) := ⟨HOK.out, by rw [← HQ.out]; exact hz⟩
                clear hz
                go_wp2_with (go_at_call 45; refine (power_any _ _ (by have := HN.out; omega) (by have := HN.out; omega)).mono ?_; rintro e w' ⟨rfl, rfl⟩)
                refine bodyPost_ret (ret_cross rfl _ _ _ _ _ rfl (block_setCell (i := 1) (block_setCell (i := 0) HRS.out _) _)) rfl ?_
                have x1 : swN n ps = n := if_pos HYS.out
                have x2 : swL n ps = swK ps t := by rw [HQ.out]; exact if_pos HYS.out
                have x3 : swB n ps = true := by simpa [swB] using HYS.out
                rw [x1, x2, x3]
                refine ⟨_, rfl, ?_, (BQH.out.setCell (p := ⟨w.heap.size, 0, none⟩) (Nat.le_refl _) _).setCell (p := ⟨w.heap.size, 1, none⟩) (Nat.le_refl _) _⟩
                have hlw : w.heap.size < W.heap.size := by have := HWS.out; omega
                exact ((hown.setBelow (p := ⟨w.heap.size, 0, none⟩) hlw _).setBelow (p := ⟨w.heap.size, 1, none⟩) hlw _).le (Nat.le_of_lt hlw)
  · have HNO : Hid (¬ SwYes n ps) := fun h => hn h.1.1
    have HN := hide hn
    have f0 := unfrozen_of_block hres2 0
    have f1 := unfrozen_of_block hres2 1
    have r0 := cell_of_block hres2 0
    have r1 := cell_of_block hres2 1
    clear hn
    go_enter Tryz.func48, Tryz.ntmps48
    go_wp2_with (go_at_call 30; refine (inRange_no _ _ _ _ HN.out).mono ?_; rintro e w' ⟨rfl, rfl⟩)
    refine bodyPost_ret (ret_cross rfl _ _ _ _ _ rfl hres2) rfl ?_
    exact givesSw_no HNO.out hB2
end Go.Proofs.YtgebplpbnaeckaaGreatDoor
