/- Texts of this seat one behind the other: CrP, Join, ListLaw, JoinW. Conditions: none. -/
import Derived.Test.YtgebplpbnaeckaaGreatDoorMg04
import Derived.Test.YtgebplpbnaeckaaGreatDoorMg01
import Derived.Test.YtgebplpbnaeckaaGreatDoorMg03
import Derived.Test.YtgebplpbnaeckaaGreatDoorMg02
import Derived.Deep.LoopGhost

/- CrP: CriticalParts of the model. -/
namespace Go.Proofs.YtgebplpbnaeckaaGreatDoor
open Go.RowKit Go.Joins

/-- what CriticalParts answers -/
def crR (n : Int) (zs : List Int) : List (Int × Int) := if vsB n zs = true then ofP (critL n.toNat zs) else []
theorem crR_no {n : Int} {zs : List Int} (h : vsB n zs = false) : crR n zs = [] := by unfold crR; rw [if_neg (by rw [h]; simp)]
theorem crR_yes {n : Int} {zs : List Int} (h : vsB n zs = true) : crR n zs = ofP (critL n.toNat zs) := if_pos h
theorem OwnsP.le {w : World} {base base' : Nat} {v : Value} {ps : List (Int × Int)} (h : OwnsP w base v ps) (hb : base' ≤ base) : OwnsP w base' v ps := ownsRow_le h hb
/-- a slice of parts of its own memory -/
def GivesP (ps : List (Int × Int)) (w : World) (e : Ending) (w' : World) : Prop := ∃ v, e = .returned v ∧ OwnsP w' w.heap.size v ps ∧ Below w.heap.size w w'
end Go.Proofs.YtgebplpbnaeckaaGreatDoor

/- Join: impl.joinedOnce. -/
namespace Go.Proofs.YtgebplpbnaeckaaGreatDoor
open Go.RowKit Go.Joins

/-- the judgment at a place, as a number -/
def zN (zs : List Int) (i : Nat) : Nat := (zs.getD i 0).toNat
/-- behind the first i judgments -/
def MarkA (f : Nat → Nat → Nat → Nat) (zs : List Int) (i t : Nat) : Prop := (∃ i0, i0 < i ∧ t = zN zs i0) ∨ ∃ i0 j0 k0, i0 < i ∧ j0 < i0 ∧ k0 < j0 ∧ t = f (zN zs i0) (zN zs j0) (zN zs k0)
/-- within the judgment i, behind the first j -/
def MarkB (f : Nat → Nat → Nat → Nat) (zs : List Int) (i j t : Nat) : Prop := MarkA f zs i t ∨ t = zN zs i ∨ ∃ j0 k0, j0 < j ∧ k0 < j0 ∧ t = f (zN zs i) (zN zs j0) (zN zs k0)
/-- within i and j, behind the first k -/
def MarkC (f : Nat → Nat → Nat → Nat) (zs : List Int) (i j k t : Nat) : Prop := MarkB f zs i j t ∨ ∃ k0, k0 < k ∧ t = f (zN zs i) (zN zs j) (zN zs k0)
theorem markB_start (f : Nat → Nat → Nat → Nat) (zs : List Int) (i t : Nat) : MarkB f zs i 0 t ↔ (MarkA f zs i t ∨ t = zN zs i) := by
  unfold MarkB
  constructor
  · rintro (h | h | ⟨j0, k0, h, _⟩)
    · exact .inl h
    · exact .inr h
    · omega
  · rintro (h | h)
    · exact .inl h
    · exact .inr (.inl h)
theorem markC_start (f : Nat → Nat → Nat → Nat) (zs : List Int) (i j t : Nat) : MarkC f zs i j 0 t ↔ MarkB f zs i j t := by
  unfold MarkC
  constructor
  · rintro (h | ⟨k0, h, _⟩)
    · exact h
    · omega
  · exact .inl
theorem markC_step (f : Nat → Nat → Nat → Nat) (zs : List Int) (i j k t : Nat) : MarkC f zs i j (k + 1) t ↔ (MarkC f zs i j k t ∨ t = f (zN zs i) (zN zs j) (zN zs k)) := by
  unfold MarkC
  constructor
  · rintro (h | ⟨k0, h, e⟩)
    · exact .inl (.inl h)
    · rcases Nat.lt_or_ge k0 k with h1 | h1
      · exact .inl (.inr ⟨k0, h1, e⟩)
      · obtain rfl : k0 = k := by omega
        exact .inr e
  · rintro ((h | ⟨k0, h, e⟩) | e)
    · exact .inl h
    · exact .inr ⟨k0, by omega, e⟩
    · exact .inr ⟨k, by omega, e⟩
theorem markC_end (f : Nat → Nat → Nat → Nat) (zs : List Int) (i j t : Nat) : MarkC f zs i j j t ↔ MarkB f zs i (j + 1) t := by
  unfold MarkC MarkB
  constructor
  · rintro ((h | h | ⟨j0, k0, h1, h2, e⟩) | ⟨k0, h, e⟩)
    · exact .inl h
    · exact .inr (.inl h)
    · exact .inr (.inr ⟨j0, k0, by omega, h2, e⟩)
    · exact .inr (.inr ⟨j, k0, by omega, h, e⟩)
  · rintro (h | h | ⟨j0, k0, h1, h2, e⟩)
    · exact .inl (.inl h)
    · exact .inl (.inr (.inl h))
    · rcases Nat.lt_or_ge j0 j with h | h
      · exact .inl (.inr (.inr ⟨j0, k0, h, h2, e⟩))
      · obtain rfl : j0 = j := by omega
        exact .inr ⟨k0, h2, e⟩
theorem markB_end (f : Nat → Nat → Nat → Nat) (zs : List Int) (i t : Nat) : MarkB f zs i i t ↔ MarkA f zs (i + 1) t := by
  unfold MarkB MarkA
  constructor
  · rintro ((⟨i0, h, e⟩ | ⟨i0, j0, k0, h, h1, h2, e⟩) | h | ⟨j0, k0, h1, h2, e⟩)
    · exact .inl ⟨i0, by omega, e⟩
    · exact .inr ⟨i0, j0, k0, by omega, h1, h2, e⟩
    · exact .inl ⟨i, by omega, h⟩
    · exact .inr ⟨i, j0, k0, by omega, h1, h2, e⟩
  · rintro (⟨i0, h, e⟩ | ⟨i0, j0, k0, h, h1, h2, e⟩)
    · rcases Nat.lt_or_ge i0 i with h3 | h3
      · exact .inl (.inl ⟨i0, h3, e⟩)
      · obtain rfl : i0 = i := by omega
        exact .inr (.inl e)
    · rcases Nat.lt_or_ge i0 i with h3 | h3
      · exact .inl (.inr ⟨i0, j0, k0, h3, h1, h2, e⟩)
      · obtain rfl : i0 = i := by omega
        exact .inr (.inr ⟨j0, k0, h1, h2, e⟩)

/-- The sixteen marks: block g holds them, and they tell P. -/
def Marks (w : World) (g : Nat) (P : Nat → Prop) : Prop := ∃ hs : List Bool, hs.length = 16 ∧ w.heap[g]? = some (.cells (hs.map Value.bool).toArray 155 (0, 0)) ∧ ∀ t, t < 16 → (hs.getD t false = true ↔ P t)
theorem Marks.iff_ {w : World} {g : Nat} {P Q : Nat → Prop} (h : Marks w g P) (hpq : ∀ t, P t ↔ Q t) : Marks w g Q := by
  obtain ⟨hs, h1, h2, h3⟩ := h
  exact ⟨hs, h1, h2, fun t ht => (h3 t ht).trans (hpq t)⟩
theorem Marks.below {w w' : World} {g B : Nat} {P : Nat → Prop} (h : Marks w g P) (hb : Below B w w') (hg : g < B) : Marks w' g P := by
  obtain ⟨hs, h1, h2, h3⟩ := h
  exact ⟨hs, h1, (hb.block g hg).trans h2, h3⟩
theorem Marks.set_ {w : World} {g x : Nat} {P : Nat → Prop} (h : Marks w g P) (hx : x < 16) : Marks (w.setCell ⟨g, x, none⟩ (.bool true)) g (fun t => P t ∨ t = x) := by
  obtain ⟨hs, h1, h2, h3⟩ := h
  refine ⟨hs.set x true, by simpa using h1, ?_, fun t ht => ?_⟩
  · rw [block_setCell h2]
    simp
  · rw [List.getD_eq_getElem?_getD]
    by_cases he : x = t
    · subst he
      rw [List.getElem?_set_self (by omega)]
      simp
    · rw [List.getElem?_set_ne he, ← List.getD_eq_getElem?_getD, h3 t ht]
      constructor
      · exact .inl
      · rintro (h | h)
        · exact h
        · exact absurd h.symm he
theorem Marks.cell {w : World} {g x : Nat} {P : Nat → Prop} (h : Marks w g P) (hx : x < 16) : ∃ b, w.cell? ⟨g, x, none⟩ = some (.bool b) ∧ w.frozen? ⟨g, x, none⟩ = false := by
  obtain ⟨hs, h1, h2, h3⟩ := h
  refine ⟨hs[x]'(by omega), ?_, unfrozen_of_block h2 x⟩
  rw [cell_of_block h2 x]
  simp [h1, hx]
theorem markA_zero (f : Nat → Nat → Nat → Nat) (zs : List Int) (t : Nat) : ¬ MarkA f zs 0 t := by
  rintro (⟨i0, h, _⟩ | ⟨i0, j0, k0, h, _⟩) <;> omega
/-- what joinedOnce answers -/
def joinL (f : Nat → Nat → Nat → Nat) (zs : List Int) : List Int := (joined f (zs.map Int.toNat)).map fun (t : Nat) => (t : Int)
theorem Marks.new (w : World) (P : Nat → Prop) (h : ∀ t, ¬ P t) :
    Marks (w.alloc (.cells #[.bool false, .bool false, .bool false, .bool false, .bool false, .bool false, .bool false, .bool false, .bool false, .bool false, .bool false, .bool false, .bool false, .bool false, .bool false, .bool false] 155)) w.heap.size P :=
  ⟨List.replicate 16 false, by simp, by rw [heap_alloc_new]; rfl, fun t ht => by
    constructor
    · intro he
      rw [List.getD_eq_getElem?_getD, List.getElem?_replicate] at he
      simp [ht] at he
    · intro hp
      exact absurd hp (h t)⟩
set_option maxRecDepth 100000 in
theorem index_marks (hs : List Bool) (hl : hs.length = 16) : ∀ (k : Nat), k < 16 → ∀ w : World, (Instr.index 155 (.agg (hs.map Value.bool).toArray) (.int .i64 (k : Nat))).run Tryz.prog w = .ok (.bool (hs.getD k false)) w := by
  match hs, hl with
  | [b0, b1, b2, b3, b4, b5, b6, b7, b8, b9, b10, b11, b12, b13, b14, b15], _ =>
    intro k hk w
    rcases (show k = 0 ∨ k = 1 ∨ k = 2 ∨ k = 3 ∨ k = 4 ∨ k = 5 ∨ k = 6 ∨ k = 7 ∨ k = 8 ∨ k = 9 ∨ k = 10 ∨ k = 11 ∨ k = 12 ∨ k = 13 ∨ k = 14 ∨ k = 15 from by omega) with
      rfl | rfl | rfl | rfl | rfl | rfl | rfl | rfl | rfl | rfl | rfl | rfl | rfl | rfl | rfl | rfl
    all_goals kernel_rfl
theorem range_filter (p : Nat → Bool) (t : Nat) : (((List.range (t + 1)).filter p).map fun (u : Nat) => (u : Int)) = (((List.range t).filter p).map fun (u : Nat) => (u : Int)) ++ (if p t = true then [(t : Int)] else []) := by
  rw [List.range_succ, List.filter_append]
  by_cases h : p t = true <;> simp [h]
theorem markA_all (f : Nat → Nat → Nat → Nat) (zs : List Int) (t : Nat) : MarkA f zs zs.length t ↔ (t ∈ zs.map Int.toNat ∨ Made f (zs.map Int.toNat) t) := by
  have hz : ∀ i, i < zs.length → (zs.map Int.toNat).getD i 0 = zN zs i := fun i hi => by
    unfold zN
    simp [List.getD_eq_getElem?_getD, hi]
  unfold MarkA Made
  constructor
  · rintro (⟨i0, h, e⟩ | ⟨i0, j0, k0, h, h1, h2, e⟩)
    · left
      rw [e, ← hz i0 h]
      exact mem_getD (by simpa using h)
    · right
      exact ⟨i0, j0, k0, h2, h1, by simpa using h, by rw [hz i0 h, hz j0 (by omega), hz k0 (by omega)]; exact e⟩
  · rintro (h | ⟨i0, j0, k0, h2, h1, h, e⟩)
    · left
      obtain ⟨i, hi, e⟩ := getD_of_mem h
      have hi' : i < zs.length := by simpa using hi
      exact ⟨i, hi', by rw [← hz i hi']; exact e.symm⟩
    · right
      have h' : i0 < zs.length := by simpa using h
      exact ⟨i0, j0, k0, h', h1, h2, by rw [← hz i0 h', ← hz j0 (by omega), ← hz k0 (by omega)]; exact e⟩
end Go.Proofs.YtgebplpbnaeckaaGreatDoor

/- ListLaw: What the walks of the laws on lists share. -/
namespace Go.Proofs.YtgebplpbnaeckaaGreatDoor
open Go.RowKit Go.Joins

theorem Box.pair {w : World} {g : Nat} {n : Int} {a : Option Addr} {len cap : Nat} (h : Box w g n a len cap) : g < w.heap.size ∧ w.cell? ⟨g, 0, none⟩ = some (.int .i64 n) ∧ w.cell? ⟨g, 1, none⟩ = some (.slice a len cap) := h

end Go.Proofs.YtgebplpbnaeckaaGreatDoor

/- JoinW: impl.joinedOnce: its walks. -/
namespace Go.Proofs.YtgebplpbnaeckaaGreatDoor
open Go.RowKit Go.Joins

theorem mostOfThree_any (x y z : Nat) (w : World) (hx : x < 16) (hy : y < 16) (hz : z < 16) : Calls Tryz.prog 104 #[.int .i64 x, .int .i64 y, .int .i64 z] w fun e w' => e = .returned (.int .i64 (med x y z : Nat)) ∧ w = w' := by
  have h1 := and_small x y hx hy
  have h2 := and_small x z hx hz
  have h3 := and_small y z hy hz
  have l1 : x &&& y < 16 := Nat.and_lt_two_pow (n := 4) _ hy
  have l2 : x &&& z < 16 := Nat.and_lt_two_pow (n := 4) _ hz
  have l3 : y &&& z < 16 := Nat.and_lt_two_pow (n := 4) _ hz
  have h4 := or_small _ _ l1 l2
  have h5 := or_small (x &&& y ||| x &&& z) (y &&& z) (Nat.or_lt_two_pow (n := 4) l1 l2) l3
  go_enter Tryz.func104, Tryz.ntmps104
  go_wp2
  go_ret
  exact ⟨rfl, rfl⟩

set_option maxHeartbeats 4000000 in
set_option maxRecDepth 100000 in
theorem joinedMed_any (a : Option Addr) (cap : Nat) (zs : List Int) (w : World) (hi : Ints w a zs) (hn : zs.length ≤ 1048576) (hcap : zs.length ≤ cap) (hr : ∀ x ∈ zs, 0 ≤ x ∧ x ≤ 15) :
    Calls Tryz.prog 103 #[.slice a zs.length cap, .func (.func 104) #[] #[]] w (Gives (joinL med zs) w) := by
  obtain ⟨i0, hi0, hz0, hz1, hz2⟩ := info_parts info_int
  have HR := hide hr
  clear hr
  go_enter Tryz.func103, Tryz.ntmps103
  go_wp2_with fail
  go_loopw [17] (fun c wr => ∃ i : Nat, i ≤ zs.length ∧ c = .int .i64 i ∧ Marks wr w.heap.size (MarkA med zs i) ∧ Below w.heap.size w wr ∧ w.heap.size < wr.heap.size) (fun c _ => zs.length - (intOf c).toNat)
  case atStart => exact ⟨0, Nat.zero_le _, rfl, Marks.new w (MarkA med zs 0) (fun t => markA_zero _ _ t), bel1 w _, by simp⟩
  case round =>
    obtain ⟨i, hile, rfl, hM, BR, hg⟩ := hrel
    by_cases hlt : i < zs.length
    · obtain ⟨b, off, rfl, hbl, hc⟩ := hi (by omega)
      have hx := (BR.cell (p := ⟨b, off + i, none⟩) hbl).trans (hc i hlt)
      rw [getD_lt hlt] at hx
      have rx := HR.out _ (mem_of_at hlt)
      obtain ⟨x, hxe⟩ := Int.eq_ofNat_of_zero_le rx.1
      have hx15 : x < 16 := by omega
      have hzx : zN zs i = x := by unfold zN; rw [getD_lt hlt, hxe]; rfl
      rw [hxe] at hx
      obtain ⟨ob, hcell, hfz⟩ := hM.cell hx15
      have hM2 := hide ((hM.set_ hx15).iff_ (fun t => (by rw [← hzx]; exact (markB_start med zs i t).symm : (MarkA med zs i t ∨ t = x) ↔ MarkB med zs i 0 t)))
      have B2 : Below w.heap.size w (wr.setCell ⟨w.heap.size, x, none⟩ (.bool true)) := BR.setCell (p := ⟨w.heap.size, x, none⟩) (Nat.le_refl _) _
      have hg2 : w.heap.size < (wr.setCell ⟨w.heap.size, x, none⟩ (.bool true)).heap.size := by simpa [World.setCell] using hg
      have HX := hide (And.intro hxe hzx)
      have HC := hide hc
      clear hxe hzx rx hM hc
      go_wp2
      clear hcell hfz BR hg hx
      obtain ⟨wo, hwo⟩ : ∃ wo : World, wo = wr.setCell ⟨w.heap.size, x, none⟩ (.bool true) := ⟨_, rfl⟩
      rw [← hwo] at hM2 B2 hg2 ⊢
      clear hwo
      go_loopw [28] (fun c wr => ∃ j : Nat, j ≤ i ∧ c = .int .i64 j ∧ Marks wr w.heap.size (MarkB med zs i j) ∧ Below w.heap.size w wr ∧ w.heap.size < wr.heap.size) (fun c _ => i - (intOf c).toNat)
      case atStart => exact ⟨0, Nat.zero_le _, rfl, hM2.out, B2, hg2⟩
      case round =>
        clear hM2 B2 hg2
        obtain ⟨j, hji, rfl, hM, BR, hg⟩ := hrel
        by_cases hlj : j < i
        · have hjl : j < zs.length := by omega
          have hy := (BR.cell (p := ⟨b, off + j, none⟩) hbl).trans (HC.out j hjl)
          rw [getD_lt hjl] at hy
          have ry := HR.out _ (mem_of_at hjl)
          obtain ⟨y, hye⟩ := Int.eq_ofNat_of_zero_le ry.1
          have hy15 : y < 16 := by omega
          have hzy : zN zs j = y := by unfold zN; rw [getD_lt hjl, hye]; rfl
          rw [hye] at hy
          have HY := hide (And.intro hye hzy)
          have hM2 := hide (hM.iff_ (fun t => (markC_start med zs i j t).symm))
          clear hye hzy ry hM
          go_wp2
          obtain ⟨wi, rfl⟩ : ∃ wi : World, wi = wr := ⟨_, rfl⟩
          go_loopw [37] (fun c wr => ∃ k : Nat, k ≤ j ∧ c = .int .i64 k ∧ Marks wr w.heap.size (MarkC med zs i j k) ∧ Below w.heap.size w wr ∧ w.heap.size < wr.heap.size) (fun c _ => j - (intOf c).toNat)
          case atStart => exact ⟨0, Nat.zero_le _, rfl, hM2.out, BR, hg⟩
          case round =>
            clear hM2 BR hg hy
            obtain ⟨k, hkj, rfl, hM, BR, hg⟩ := hrel
            by_cases hlk : k < j
            · have hkl : k < zs.length := by omega
              have hz := (BR.cell (p := ⟨b, off + k, none⟩) hbl).trans (HC.out k hkl)
              rw [getD_lt hkl] at hz
              have rz := HR.out _ (mem_of_at hkl)
              obtain ⟨z, hze⟩ := Int.eq_ofNat_of_zero_le rz.1
              have hz15 : z < 16 := by omega
              have hzz : zN zs k = z := by unfold zN; rw [getD_lt hkl, hze]; rfl
              rw [hze] at hz
              have hf15 := join_med.lt x y z hx15 hy15 hz15
              obtain ⟨ob, hcell, hfz⟩ := hM.cell hf15
              have hM2 := hide ((hM.set_ hf15).iff_ (fun t => (by rw [markC_step, HX.out.2, HY.out.2, hzz] : (MarkC med zs i j k t ∨ t = med x y z) ↔ MarkC med zs i j (k + 1) t)))
              have B2 : Below w.heap.size w (wr.setCell ⟨w.heap.size, med x y z, none⟩ (.bool true)) := BR.setCell (p := ⟨w.heap.size, med x y z, none⟩) (Nat.le_refl _) _
              have hg2 : w.heap.size < (wr.setCell ⟨w.heap.size, med x y z, none⟩ (.bool true)).heap.size := by simpa [World.setCell] using hg
              clear hze hzz rz hM
              go_wp2_with fail
              refine (mostOfThree_any x y z _ hx15 hy15 hz15).mono ?_
              rintro e w' ⟨rfl, rfl⟩
              go_wp2
              go_roundw
              case rel => exact ⟨k + 1, by omega, by go_num, hM2.out, B2, hg2⟩
              case measure => simp only [intOf]; omega
            · obtain rfl : k = j := by omega
              have hM2 := hide (hM.iff_ (fun t => markC_end med zs i k t))
              clear hM
              go_wp2
              go_roundw
              case rel => exact ⟨k + 1, by omega, by go_num, hM2.out, BR, hg⟩
              case measure => simp only [intOf]; omega
        · obtain rfl : j = i := by omega
          have hM2 := hide (hM.iff_ (fun t => markB_end med zs j t))
          clear hM
          go_wp2
          go_roundw
          case rel => exact ⟨j + 1, by omega, by go_num, hM2.out, BR, hg⟩
          case measure => simp only [intOf]; omega
    · obtain rfl : i = zs.length := by omega
      obtain ⟨hs, hl16, hblk, hiff⟩ := hM
      have HI := hide hiff
      have hinfo : (Tryz.prog.info? 155).map (·.size) = some (hs.map Value.bool).toArray.size := (by kernel_rfl : (Tryz.prog.info? 155).map (·.size) = some 16).trans (by simp [hl16])
      have hidx := index_marks hs hl16
      have HL16 := hide hl16
      clear hiff hl16 hlt hile
      go_wp2_with (refine wpList_load_row rfl 155 _ rfl w.heap.size rfl 155 _ (0, 0) _ hblk Tryz.underlying155 rfl hinfo ?_)
      obtain ⟨wo, rfl⟩ : ∃ wo : World, wo = wr := ⟨_, rfl⟩
      go_loopw [12, 51] (fun v c wr => ∃ t : Nat, t ≤ 16 ∧ c = .int .i64 t ∧ Owns wr wo.heap.size v (((List.range t).filter fun u => hs.getD u false).map fun (u : Nat) => (u : Int)) ∧ Below wo.heap.size wo wr) (fun _ c _ => 16 - (intOf c).toNat)
      case atStart => exact ⟨0, Nat.zero_le _, rfl, World.ownsRow_nil _ _ _ _, Below.refl _ _⟩
      case round =>
        obtain ⟨t, ht, rfl, hown, BW⟩ := hrel
        by_cases hlt : t < 16
        · have hit := hidx t hlt
          have hsz := BW.size
          have hlen : (((List.range t).filter fun u => hs.getD u false).map fun (u : Nat) => (u : Int)).length ≤ t := by
            rw [List.length_map]; exact Nat.le_trans (List.length_filter_le _ _) (by simp)
          have hnext := hide (range_filter (fun u => hs.getD u false) t)
          clear hidx
          by_cases hb : hs.getD t false = true
          · have HB := hide hb
            rw [hb] at hit
            clear hb
            go_wp2_with ((at_builtin; refine wpList_append_own _ rfl _ _ 35 rfl wo.heap.size 3 i0 (.int .i64 0) 1 8 Tryz.underlying35 hi0 hz0 hz1 hz2 rfl (by decide) _ _ _ rfl (hown.alloc _) ⟨wr.heap.size, 0, none⟩ 1 1 [.int .i64 t] rfl rfl ?c1 ?c2 ?c3 ?c4 ?c5 ?_))
            case c1 => exact cell_one_new wr _ _
            case c2 => intro u hu; simp at hu; subst hu; rfl
            case c3 => unfold maxLen; omega
            case c4 => omega
            case c5 => simp; omega
            intro v' w2 hown' hgrow _
            have hpush : Hid (Owns w2 wo.heap.size v' ((((List.range t).filter fun u => hs.getD u false).map fun (u : Nat) => (u : Int)) ++ [(t : Int)])) := by unfold Hid Owns; simpa [Function.comp_def] using hown'
            have hbel : Below wo.heap.size wo w2 := (BW.alloc hsz _).grown hgrow (by simp; omega) (fun j hj => own_ge hown j hj)
            clear hown' hgrow hown
            go_wp2
            go_roundw
            case rel => exact ⟨t + 1, by omega, by go_num, by rw [hnext.out, if_pos HB.out]; exact hpush.out, hbel⟩
            case measure => simp only [intOf]; omega
          · have hb : hs.getD t false = false := by simpa using hb
            have HB := hide hb
            rw [hb] at hit
            clear hb
            go_wp2
            go_roundw
            case rel => exact ⟨t + 1, by omega, by go_num, by rw [hnext.out, if_neg (by rw [HB.out]; decide), List.append_nil]; exact hown, BW⟩
            case measure => simp only [intOf]; omega
        · obtain rfl : t = 16 := by omega
          go_wp2
          go_ret
          refine ⟨_, rfl, ?_, bnext BR BW⟩
          have he : (((List.range 16).filter fun u => hs.getD u false).map fun (u : Nat) => (u : Int)) = joinL med zs := by
            unfold joinL joined
            congr 1
            refine List.filter_congr (fun u hu => ?_)
            rw [Bool.eq_iff_iff, HI.out u (List.mem_range.1 hu), markA_all]
            simp
          rw [← he]
          exact hown.le BR.size
end Go.Proofs.YtgebplpbnaeckaaGreatDoor
