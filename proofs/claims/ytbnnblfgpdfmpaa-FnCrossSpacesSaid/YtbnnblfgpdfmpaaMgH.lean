/- Texts of this seat one behind the other: Join, JoinW, JoinP, Clo, Med, Vlt, CloM, CrE, CrN, CrC, LawH, EqSp, MedI, OpenI, SwI, CrL. Conditions: none. -/
import Derived.Test.YtbnnblfgpdfmpaaSV
import Derived.Test.YtbnnblfgpdfmpaaBits
import Derived.Test.YtbnnblfgpdfmpaaHas
import Derived.Test.YtbnnblfgpdfmpaaListLaw
import Derived.Test.YtbnnblfgpdfmpaaSp
import Derived.Test.YtbnnblfgpdfmpaaBit
import Derived.Test.YtbnnblfgpdfmpaaValid
import Derived.Test.YtbnnblfgpdfmpaaCrP
import Derived.Test.YtbnnblfgpdfmpaaRead
import Derived.Test.YtbnnblfgpdfmpaaOpen
import Derived.Test.YtbnnblfgpdfmpaaPairs
import Derived.Test.YtbnnblfgpdfmpaaCrI
import Derived.Test.YtbnnblfgpdfmpaaPtS
import Derived.Deep.LoopGhost
import Derived.Handy
import Derived.Outline
import Derived.Deep.RegionHeld3
import Derived.Deep.RegionWith

/- Join: impl.joinedOnce. -/
namespace Go.Proofs.Ytbnnblfgpdfmpaa
open Go.RowKit Go.Joins

/-- the judgment at a place, as a number -/
def zN (zs : List Int) (i : Nat) : Nat := (zs.getD i 0).toNat
/-- behind the first i judgments -/
def MarkA (f : Nat → Nat → Nat → Nat) (zs : List Int) (i t : Nat) : Prop := (∃ i0, i0 < i ∧ t = zN zs i0) ∨ ∃ i0 j0 k0, i0 < i ∧ j0 < i0 ∧ k0 < j0 ∧ t = f (zN zs i0) (zN zs j0) (zN zs k0)
/-- within the judgment i, behind the first j -/
def MarkB (f : Nat → Nat → Nat → Nat) (zs : List Int) (i j t : Nat) : Prop := MarkA f zs i t ∨ t = zN zs i ∨ ∃ j0 k0, j0 < j ∧ k0 < j0 ∧ t = f (zN zs i) (zN zs j0) (zN zs k0)
/-- within i and j, behind the first k -/
def MarkC (f : Nat → Nat → Nat → Nat) (zs : List Int) (i j k t : Nat) : Prop := MarkB f zs i j t ∨ ∃ k0, k0 < k ∧ t = f (zN zs i) (zN zs j) (zN zs k0)
theorem markB_start (f : Nat → Nat → Nat → Nat) (zs : List Int) (i t : Nat) : MarkB f zs i 0 t ↔ (MarkA f zs i t ∨ t = zN zs i) := by
  unfold MarkB
  constructor
  · rintro (h | h | ⟨j0, k0, h, _⟩)
    · exact .inl h
    · exact .inr h
    · omega
  · rintro (h | h)
    · exact .inl h
    · exact .inr (.inl h)
theorem markC_start (f : Nat → Nat → Nat → Nat) (zs : List Int) (i j t : Nat) : MarkC f zs i j 0 t ↔ MarkB f zs i j t := by
  unfold MarkC
  constructor
  · rintro (h | ⟨k0, h, _⟩)
    · exact h
    · omega
  · exact .inl
theorem markC_step (f : Nat → Nat → Nat → Nat) (zs : List Int) (i j k t : Nat) : MarkC f zs i j (k + 1) t ↔ (MarkC f zs i j k t ∨ t = f (zN zs i) (zN zs j) (zN zs k)) := by
  unfold MarkC
  constructor
  · rintro (h | ⟨k0, h, e⟩)
    · exact .inl (.inl h)
    · rcases Nat.lt_or_ge k0 k with h1 | h1
      · exact .inl (.inr ⟨k0, h1, e⟩)
      · obtain rfl : k0 = k := by omega
        exact .inr e
  · rintro ((h | ⟨k0, h, e⟩) | e)
    · exact .inl h
    · exact .inr ⟨k0, by omega, e⟩
    · exact .inr ⟨k, by omega, e⟩
theorem markC_end (f : Nat → Nat → Nat → Nat) (zs : List Int) (i j t : Nat) : MarkC f zs i j j t ↔ MarkB f zs i (j + 1) t := by
  unfold MarkC MarkB
  constructor
  · rintro ((h | h | ⟨j0, k0, h1, h2, e⟩) | ⟨k0, h, e⟩)
    · exact .inl h
    · exact .inr (.inl h)
    · exact .inr (.inr ⟨j0, k0, by omega, h2, e⟩)
    · exact .inr (.inr ⟨j, k0, by omega, h, e⟩)
  · rintro (h | h | ⟨j0, k0, h1, h2, e⟩)
    · exact .inl (.inl h)
    · exact .inl (.inr (.inl h))
    · rcases Nat.lt_or_ge j0 j with h | h
      · exact .inl (.inr (.inr ⟨j0, k0, h, h2, e⟩))
      · obtain rfl : j0 = j := by omega
        exact .inr ⟨k0, h2, e⟩
theorem markB_end (f : Nat → Nat → Nat → Nat) (zs : List Int) (i t : Nat) : MarkB f zs i i t ↔ MarkA f zs (i + 1) t := by
  unfold MarkB MarkA
  constructor
  · rintro ((⟨i0, h, e⟩ | ⟨i0, j0, k0, h, h1, h2, e⟩) | h | ⟨j0, k0, h1, h2, e⟩)
    · exact .inl ⟨i0, by omega, e⟩
    · exact .inr ⟨i0, j0, k0, by omega, h1, h2, e⟩
    · exact .inl ⟨i, by omega, h⟩
    · exact .inr ⟨i, j0, k0, by omega, h1, h2, e⟩
  · rintro (⟨i0, h, e⟩ | ⟨i0, j0, k0, h, h1, h2, e⟩)
    · rcases Nat.lt_or_ge i0 i with h3 | h3
      · exact .inl (.inl ⟨i0, h3, e⟩)
      · obtain rfl : i0 = i := by omega
        exact .inr (.inl e)
    · rcases Nat.lt_or_ge i0 i with h3 | h3
      · exact .inl (.inr ⟨i0, j0, k0, h3, h1, h2, e⟩)
      · obtain rfl : i0 = i := by omega
        exact .inr (.inr ⟨j0, k0, h1, h2, e⟩)

/-- The sixteen marks: block g holds them, and they tell P. -/
def Marks (w : World) (g : Nat) (P : Nat → Prop) : Prop := ∃ hs : List Bool, hs.length = 16 ∧ w.heap[g]? = some (.cells (hs.map Value.bool).toArray 72 (0, 0)) ∧ ∀ t, t < 16 → (hs.getD t false = true ↔ P t)
theorem Marks.iff_ {w : World} {g : Nat} {P Q : Nat → Prop} (h : Marks w g P) (hpq : ∀ t, P t ↔ Q t) : Marks w g Q := by
  obtain ⟨hs, h1, h2, h3⟩ := h
  exact ⟨hs, h1, h2, fun t ht => (h3 t ht).trans (hpq t)⟩
theorem Marks.below {w w' : World} {g B : Nat} {P : Nat → Prop} (h : Marks w g P) (hb : Below B w w') (hg : g < B) : Marks w' g P := by
  obtain ⟨hs, h1, h2, h3⟩ := h
  exact ⟨hs, h1, (hb.block g hg).trans h2, h3⟩
theorem Marks.set_ {w : World} {g x : Nat} {P : Nat → Prop} (h : Marks w g P) (hx : x < 16) : Marks (w.setCell ⟨g, x, none⟩ (.bool true)) g (fun t => P t ∨ t = x) := by
  obtain ⟨hs, h1, h2, h3⟩ := h
  refine ⟨hs.set x true, by simpa using h1, ?_, fun t ht => ?_⟩
  · rw [block_setCell h2]
    simp
  · rw [List.getD_eq_getElem?_getD]
    by_cases he : x = t
    · subst he
      rw [List.getElem?_set_self (by omega)]
      simp
    · rw [List.getElem?_set_ne he, ← List.getD_eq_getElem?_getD, h3 t ht]
      constructor
      · exact .inl
      · rintro (h | h)
        · exact h
        · exact absurd h.symm he
theorem Marks.cell {w : World} {g x : Nat} {P : Nat → Prop} (h : Marks w g P) (hx : x < 16) : ∃ b, w.cell? ⟨g, x, none⟩ = some (.bool b) ∧ w.frozen? ⟨g, x, none⟩ = false := by
  obtain ⟨hs, h1, h2, h3⟩ := h
  refine ⟨hs[x]'(by omega), ?_, unfrozen_of_block h2 x⟩
  rw [cell_of_block h2 x]
  simp [h1, hx]
theorem markA_zero (f : Nat → Nat → Nat → Nat) (zs : List Int) (t : Nat) : ¬ MarkA f zs 0 t := by
  rintro (⟨i0, h, _⟩ | ⟨i0, j0, k0, h, _⟩) <;> omega
/-- what joinedOnce answers -/
def joinL (f : Nat → Nat → Nat → Nat) (zs : List Int) : List Int := (joined f (zs.map Int.toNat)).map fun (t : Nat) => (t : Int)
theorem Marks.new (w : World) (P : Nat → Prop) (h : ∀ t, ¬ P t) :
    Marks (w.alloc (.cells #[.bool false, .bool false, .bool false, .bool false, .bool false, .bool false, .bool false, .bool false, .bool false, .bool false, .bool false, .bool false, .bool false, .bool false, .bool false, .bool false] 72)) w.heap.size P :=
  ⟨List.replicate 16 false, by simp, by rw [heap_alloc_new]; rfl, fun t ht => by
    constructor
    · intro he
      rw [List.getD_eq_getElem?_getD, List.getElem?_replicate] at he
      simp [ht] at he
    · intro hp
      exact absurd hp (h t)⟩
set_option maxRecDepth 100000 in
theorem index_marks (hs : List Bool) (hl : hs.length = 16) : ∀ (k : Nat), k < 16 → ∀ w : World, (Instr.index 72 (.agg (hs.map Value.bool).toArray) (.int .i64 (k : Nat))).run Try.prog w = .ok (.bool (hs.getD k false)) w := by
  match hs, hl with
  | [b0, b1, b2, b3, b4, b5, b6, b7, b8, b9, b10, b11, b12, b13, b14, b15], _ =>
    intro k hk w
    rcases (show k = 0 ∨ k = 1 ∨ k = 2 ∨ k = 3 ∨ k = 4 ∨ k = 5 ∨ k = 6 ∨ k = 7 ∨ k = 8 ∨ k = 9 ∨ k = 10 ∨ k = 11 ∨ k = 12 ∨ k = 13 ∨ k = 14 ∨ k = 15 from by omega) with
      rfl | rfl | rfl | rfl | rfl | rfl | rfl | rfl | rfl | rfl | rfl | rfl | rfl | rfl | rfl | rfl
    all_goals kernel_rfl
theorem range_filter (p : Nat → Bool) (t : Nat) : (((List.range (t + 1)).filter p).map fun (u : Nat) => (u : Int)) = (((List.range t).filter p).map fun (u : Nat) => (u : Int)) ++ (if p t = true then [(t : Int)] else []) := by
  rw [List.range_succ, List.filter_append]
  by_cases h : p t = true <;> simp [h]
theorem markA_all (f : Nat → Nat → Nat → Nat) (zs : List Int) (t : Nat) : MarkA f zs zs.length t ↔ (t ∈ zs.map Int.toNat ∨ Made f (zs.map Int.toNat) t) := by
  have hz : ∀ i, i < zs.length → (zs.map Int.toNat).getD i 0 = zN zs i := fun i hi => by
    unfold zN
    simp [List.getD_eq_getElem?_getD, hi]
  unfold MarkA Made
  constructor
  · rintro (⟨i0, h, e⟩ | ⟨i0, j0, k0, h, h1, h2, e⟩)
    · left
      rw [e, ← hz i0 h]
      exact mem_getD (by simpa using h)
    · right
      exact ⟨i0, j0, k0, h2, h1, by simpa using h, by rw [hz i0 h, hz j0 (by omega), hz k0 (by omega)]; exact e⟩
  · rintro (h | ⟨i0, j0, k0, h2, h1, h, e⟩)
    · left
      obtain ⟨i, hi, e⟩ := getD_of_mem h
      have hi' : i < zs.length := by simpa using hi
      exact ⟨i, hi', by rw [← hz i hi']; exact e.symm⟩
    · right
      have h' : i0 < zs.length := by simpa using h
      exact ⟨i0, j0, k0, h', h1, h2, by rw [← hz i0 h', ← hz j0 (by omega), ← hz k0 (by omega)]; exact e⟩
end Go.Proofs.Ytbnnblfgpdfmpaa

/- JoinW: impl.joinedOnce: its walks. -/
namespace Go.Proofs.Ytbnnblfgpdfmpaa
open Go.RowKit Go.Joins

theorem mostOfThree_any (x y z : Nat) (w : World) (hx : x < 16) (hy : y < 16) (hz : z < 16) : Calls Try.prog 51 #[.int .i64 x, .int .i64 y, .int .i64 z] w fun e w' => e = .returned (.int .i64 (med x y z : Nat)) ∧ w = w' := by
  have h1 := and_small x y hx hy
  have h2 := and_small x z hx hz
  have h3 := and_small y z hy hz
  have l1 : x &&& y < 16 := Nat.and_lt_two_pow (n := 4) _ hy
  have l2 : x &&& z < 16 := Nat.and_lt_two_pow (n := 4) _ hz
  have l3 : y &&& z < 16 := Nat.and_lt_two_pow (n := 4) _ hz
  have h4 := or_small _ _ l1 l2
  have h5 := or_small (x &&& y ||| x &&& z) (y &&& z) (Nat.or_lt_two_pow (n := 4) l1 l2) l3
  go_enter Try.func51, Try.ntmps51
  go_wp2
  go_ret
  exact ⟨rfl, rfl⟩

set_option maxHeartbeats 4000000 in
set_option maxRecDepth 100000 in
theorem joinedMed_any (a : Option Addr) (cap : Nat) (zs : List Int) (w : World) (hi : Ints w a zs) (hn : zs.length ≤ 1048576) (hcap : zs.length ≤ cap) (hr : ∀ x ∈ zs, 0 ≤ x ∧ x ≤ 15) :
    Calls Try.prog 50 #[.slice a zs.length cap, .func (.func 51) #[] #[]] w (Gives (joinL med zs) w) := by
  obtain ⟨i0, hi0, hz0, hz1, hz2⟩ := info_parts info_int
  have HR := hide hr
  clear hr
  go_enter Try.func50, Try.ntmps50
  go_wp2_with fail
  go_loopw [17] (fun c wr => ∃ i : Nat, i ≤ zs.length ∧ c = .int .i64 i ∧ Marks wr w.heap.size (MarkA med zs i) ∧ Below w.heap.size w wr ∧ w.heap.size < wr.heap.size) (fun c _ => zs.length - (intOf c).toNat)
  case atStart => exact ⟨0, Nat.zero_le _, rfl, Marks.new w (MarkA med zs 0) (fun t => markA_zero _ _ t), bel1 w _, by simp⟩
  case round =>
    obtain ⟨i, hile, rfl, hM, BR, hg⟩ := hrel
    by_cases hlt : i < zs.length
    · obtain ⟨b, off, rfl, hbl, hc⟩ := hi (by omega)
      have hx := (BR.cell (p := ⟨b, off + i, none⟩) hbl).trans (hc i hlt)
      rw [getD_lt hlt] at hx
      have rx := HR.out _ (mem_of_at hlt)
      obtain ⟨x, hxe⟩ := Int.eq_ofNat_of_zero_le rx.1
      have hx15 : x < 16 := by omega
      have hzx : zN zs i = x := by unfold zN; rw [getD_lt hlt, hxe]; rfl
      rw [hxe] at hx
      obtain ⟨ob, hcell, hfz⟩ := hM.cell hx15
      have hM2 := hide ((hM.set_ hx15).iff_ (fun t => (by rw [← hzx]; exact (markB_start med zs i t).symm : (MarkA med zs i t ∨ t = x) ↔ MarkB med zs i 0 t)))
      have B2 : Below w.heap.size w (wr.setCell ⟨w.heap.size, x, none⟩ (.bool true)) := BR.setCell (p := ⟨w.heap.size, x, none⟩) (Nat.le_refl _) _
      have hg2 : w.heap.size < (wr.setCell ⟨w.heap.size, x, none⟩ (.bool true)).heap.size := by simpa [World.setCell] using hg
      have HX := hide (And.intro hxe hzx)
      have HC := hide hc
      clear hxe hzx rx hM hc
      go_wp2
      clear hcell hfz BR hg hx
      obtain ⟨wo, hwo⟩ : ∃ wo : World, wo = wr.setCell ⟨w.heap.size, x, none⟩ (.bool true) := ⟨_, rfl⟩
      rw [← hwo] at hM2 B2 hg2 ⊢
      clear hwo
      go_loopw [28] (fun c wr => ∃ j : Nat, j ≤ i ∧ c = .int .i64 j ∧ Marks wr w.heap.size (MarkB med zs i j) ∧ Below w.heap.size w wr ∧ w.heap.size < wr.heap.size) (fun c _ => i - (intOf c).toNat)
      case atStart => exact ⟨0, Nat.zero_le _, rfl, hM2.out, B2, hg2⟩
      case round =>
        clear hM2 B2 hg2
        obtain ⟨j, hji, rfl, hM, BR, hg⟩ := hrel
        by_cases hlj : j < i
        · have hjl : j < zs.length := by omega
          have hy := (BR.cell (p := ⟨b, off + j, none⟩) hbl).trans (HC.out j hjl)
          rw [getD_lt hjl] at hy
          have ry := HR.out _ (mem_of_at hjl)
          obtain ⟨y, hye⟩ := Int.eq_ofNat_of_zero_le ry.1
          have hy15 : y < 16 := by omega
          have hzy : zN zs j = y := by unfold zN; rw [getD_lt hjl, hye]; rfl
          rw [hye] at hy
          have HY := hide (And.intro hye hzy)
          have hM2 := hide (hM.iff_ (fun t => (markC_start med zs i j t).symm))
          clear hye hzy ry hM
          go_wp2
          obtain ⟨wi, rfl⟩ : ∃ wi : World, wi = wr := ⟨_, rfl⟩
          go_loopw [37] (fun c wr => ∃ k : Nat, k ≤ j ∧ c = .int .i64 k ∧ Marks wr w.heap.size (MarkC med zs i j k) ∧ Below w.heap.size w wr ∧ w.heap.size < wr.heap.size) (fun c _ => j - (intOf c).toNat)
          case atStart => exact ⟨0, Nat.zero_le _, rfl, hM2.out, BR, hg⟩
          case round =>
            clear hM2 BR hg hy
            obtain ⟨k, hkj, rfl, hM, BR, hg⟩ := hrel
            by_cases hlk : k < j
            · have hkl : k < zs.length := by omega
              have hz := (BR.cell (p := ⟨b, off + k, none⟩) hbl).trans (HC.out k hkl)
              rw [getD_lt hkl] at hz
              have rz := HR.out _ (mem_of_at hkl)
              obtain ⟨z, hze⟩ := Int.eq_ofNat_of_zero_le rz.1
              have hz15 : z < 16 := by omega
              have hzz : zN zs k = z := by unfold zN; rw [getD_lt hkl, hze]; rfl
              rw [hze] at hz
              have hf15 := join_med.lt x y z hx15 hy15 hz15
              obtain ⟨ob, hcell, hfz⟩ := hM.cell hf15
              have hM2 := hide ((hM.set_ hf15).iff_ (fun t => (by rw [markC_step, HX.out.2, HY.out.2, hzz] : (MarkC med zs i j k t ∨ t = med x y z) ↔ MarkC med zs i j (k + 1) t)))
              have B2 : Below w.heap.size w (wr.setCell ⟨w.heap.size, med x y z, none⟩ (.bool true)) := BR.setCell (p := ⟨w.heap.size, med x y z, none⟩) (Nat.le_refl _) _
              have hg2 : w.heap.size < (wr.setCell ⟨w.heap.size, med x y z, none⟩ (.bool true)).heap.size := by simpa [World.setCell] using hg
              clear hze hzz rz hM
              go_wp2_with fail
              refine (mostOfThree_any x y z _ hx15 hy15 hz15).mono ?_
              rintro e w' ⟨rfl, rfl⟩
              go_wp2
              go_roundw
              case rel => exact ⟨k + 1, by omega, by go_num, hM2.out, B2, hg2⟩
              case measure => simp only [intOf]; omega
            · obtain rfl : k = j := by omega
              have hM2 := hide (hM.iff_ (fun t => markC_end med zs i k t))
              clear hM
              go_wp2
              go_roundw
              case rel => exact ⟨k + 1, by omega, by go_num, hM2.out, BR, hg⟩
              case measure => simp only [intOf]; omega
        · obtain rfl : j = i := by omega
          have hM2 := hide (hM.iff_ (fun t => markB_end med zs j t))
          clear hM
          go_wp2
          go_roundw
          case rel => exact ⟨j + 1, by omega, by go_num, hM2.out, BR, hg⟩
          case measure => simp only [intOf]; omega
    · obtain rfl : i = zs.length := by omega
      obtain ⟨hs, hl16, hblk, hiff⟩ := hM
      have HI := hide hiff
      have hinfo : (Try.prog.info? 72).map (·.size) = some (hs.map Value.bool).toArray.size := (by kernel_rfl : (Try.prog.info? 72).map (·.size) = some 16).trans (by simp [hl16])
      have hidx := index_marks hs hl16
      have HL16 := hide hl16
      clear hiff hl16 hlt hile
      go_wp2_with (refine wpList_load_row rfl 72 _ rfl w.heap.size rfl 72 _ (0, 0) _ hblk Try.underlying72 rfl hinfo ?_)
      obtain ⟨wo, rfl⟩ : ∃ wo : World, wo = wr := ⟨_, rfl⟩
      go_loopw [12, 51] (fun v c wr => ∃ t : Nat, t ≤ 16 ∧ c = .int .i64 t ∧ Owns wr wo.heap.size v (((List.range t).filter fun u => hs.getD u false).map fun (u : Nat) => (u : Int)) ∧ Below wo.heap.size wo wr) (fun _ c _ => 16 - (intOf c).toNat)
      case atStart => exact ⟨0, Nat.zero_le _, rfl, World.ownsRow_nil _ _ _ _, Below.refl _ _⟩
      case round =>
        obtain ⟨t, ht, rfl, hown, BW⟩ := hrel
        by_cases hlt : t < 16
        · have hit := hidx t hlt
          have hsz := BW.size
          have hlen : (((List.range t).filter fun u => hs.getD u false).map fun (u : Nat) => (u : Int)).length ≤ t := by
            rw [List.length_map]; exact Nat.le_trans (List.length_filter_le _ _) (by simp)
          have hnext := hide (range_filter (fun u => hs.getD u false) t)
          clear hidx
          by_cases hb : hs.getD t false = true
          · have HB := hide hb
            rw [hb] at hit
            clear hb
            go_wp2_with ((at_builtin; refine wpList_append_own _ rfl _ _ 22 rfl wo.heap.size 3 i0 (.int .i64 0) 1 8 Try.underlying22 hi0 hz0 hz1 hz2 rfl (by decide) _ _ _ rfl (hown.alloc _) ⟨wr.heap.size, 0, none⟩ 1 1 [.int .i64 t] rfl rfl ?c1 ?c2 ?c3 ?c4 ?c5 ?_))
            case c1 => exact cell_one_new wr _ _
            case c2 => intro u hu; simp at hu; subst hu; rfl
            case c3 => unfold maxLen; omega
            case c4 => omega
            case c5 => simp; omega
            intro v' w2 hown' hgrow _
            have hpush : Hid (Owns w2 wo.heap.size v' ((((List.range t).filter fun u => hs.getD u false).map fun (u : Nat) => (u : Int)) ++ [(t : Int)])) := by unfold Hid Owns; simpa [Function.comp_def] using hown'
            have hbel : Below wo.heap.size wo w2 := (BW.alloc hsz _).grown hgrow (by simp; omega) (fun j hj => own_ge hown j hj)
            clear hown' hgrow hown
            go_wp2
            go_roundw
            case rel => exact ⟨t + 1, by omega, by go_num, by rw [hnext.out, if_pos HB.out]; exact hpush.out, hbel⟩
            case measure => simp only [intOf]; omega
          · have hb : hs.getD t false = false := by simpa using hb
            have HB := hide hb
            rw [hb] at hit
            clear hb
            go_wp2
            go_roundw
            case rel => exact ⟨t + 1, by omega, by go_num, by rw [hnext.out, if_neg (by rw [HB.out]; decide), List.append_nil]; exact hown, BW⟩
            case measure => simp only [intOf]; omega
        · obtain rfl : t = 16 := by omega
          go_wp2
          go_ret
          refine ⟨_, rfl, ?_, bnext BR BW⟩
          have he : (((List.range 16).filter fun u => hs.getD u false).map fun (u : Nat) => (u : Int)) = joinL med zs := by
            unfold joinL joined
            congr 1
            refine List.filter_congr (fun u hu => ?_)
            rw [Bool.eq_iff_iff, HI.out u (List.mem_range.1 hu), markA_all]
            simp
          rw [← he]
          exact hown.le BR.size
end Go.Proofs.Ytbnnblfgpdfmpaa

/- JoinP: impl.joinedOnce with sumOfThree. -/
namespace Go.Proofs.Ytbnnblfgpdfmpaa
open Go.RowKit Go.Joins

theorem sumOfThree_any (x y z : Nat) (w : World) (hx : x < 16) (hy : y < 16) (hz : z < 16) : Calls Try.prog 52 #[.int .i64 x, .int .i64 y, .int .i64 z] w fun e w' => e = .returned (.int .i64 (par x y z : Nat)) ∧ w = w' := by
  have h1 := xor_small x y hx hy
  have l1 : x ^^^ y < 16 := Nat.xor_lt_two_pow (n := 4) hx hy
  have h2 : bits .xor .i64 ((x ^^^ y : Nat) : Int) (z : Int) = ((par x y z : Nat) : Int) := xor_small _ _ l1 hz
  go_enter Try.func52, Try.ntmps52
  go_wp2
  go_ret
  exact ⟨rfl, rfl⟩

set_option maxHeartbeats 4000000 in
set_option maxRecDepth 100000 in
theorem joinedPar_any (a : Option Addr) (cap : Nat) (zs : List Int) (w : World) (hi : Ints w a zs) (hn : zs.length ≤ 1048576) (hcap : zs.length ≤ cap) (hr : ∀ x ∈ zs, 0 ≤ x ∧ x ≤ 15) :
    Calls Try.prog 50 #[.slice a zs.length cap, .func (.func 52) #[] #[]] w (Gives (joinL par zs) w) := by
  obtain ⟨i0, hi0, hz0, hz1, hz2⟩ := info_parts info_int
  have HR := hide hr
  clear hr
  go_enter Try.func50, Try.ntmps50
  go_wp2_with fail
  go_loopw [17] (fun c wr => ∃ i : Nat, i ≤ zs.length ∧ c = .int .i64 i ∧ Marks wr w.heap.size (MarkA par zs i) ∧ Below w.heap.size w wr ∧ w.heap.size < wr.heap.size) (fun c _ => zs.length - (intOf c).toNat)
  case atStart => exact ⟨0, Nat.zero_le _, rfl, Marks.new w (MarkA par zs 0) (fun t => markA_zero _ _ t), bel1 w _, by simp⟩
  case round =>
    obtain ⟨i, hile, rfl, hM, BR, hg⟩ := hrel
    by_cases hlt : i < zs.length
    · obtain ⟨b, off, rfl, hbl, hc⟩ := hi (by omega)
      have hx := (BR.cell (p := ⟨b, off + i, none⟩) hbl).trans (hc i hlt)
      rw [getD_lt hlt] at hx
      have rx := HR.out _ (mem_of_at hlt)
      obtain ⟨x, hxe⟩ := Int.eq_ofNat_of_zero_le rx.1
      have hx15 : x < 16 := by omega
      have hzx : zN zs i = x := by unfold zN; rw [getD_lt hlt, hxe]; rfl
      rw [hxe] at hx
      obtain ⟨ob, hcell, hfz⟩ := hM.cell hx15
      have hM2 := hide ((hM.set_ hx15).iff_ (fun t => (by rw [← hzx]; exact (markB_start par zs i t).symm : (MarkA par zs i t ∨ t = x) ↔ MarkB par zs i 0 t)))
      have B2 : Below w.heap.size w (wr.setCell ⟨w.heap.size, x, none⟩ (.bool true)) := BR.setCell (p := ⟨w.heap.size, x, none⟩) (Nat.le_refl _) _
      have hg2 : w.heap.size < (wr.setCell ⟨w.heap.size, x, none⟩ (.bool true)).heap.size := by simpa [World.setCell] using hg
      have HX := hide (And.intro hxe hzx)
      have HC := hide hc
      clear hxe hzx rx hM hc
      go_wp2
      clear hcell hfz BR hg hx
      obtain ⟨wo, hwo⟩ : ∃ wo : World, wo = wr.setCell ⟨w.heap.size, x, none⟩ (.bool true) := ⟨_, rfl⟩
      rw [← hwo] at hM2 B2 hg2 ⊢
      clear hwo
      go_loopw [28] (fun c wr => ∃ j : Nat, j ≤ i ∧ c = .int .i64 j ∧ Marks wr w.heap.size (MarkB par zs i j) ∧ Below w.heap.size w wr ∧ w.heap.size < wr.heap.size) (fun c _ => i - (intOf c).toNat)
      case atStart => exact ⟨0, Nat.zero_le _, rfl, hM2.out, B2, hg2⟩
      case round =>
        clear hM2 B2 hg2
        obtain ⟨j, hji, rfl, hM, BR, hg⟩ := hrel
        by_cases hlj : j < i
        · have hjl : j < zs.length := by omega
          have hy := (BR.cell (p := ⟨b, off + j, none⟩) hbl).trans (HC.out j hjl)
          rw [getD_lt hjl] at hy
          have ry := HR.out _ (mem_of_at hjl)
          obtain ⟨y, hye⟩ := Int.eq_ofNat_of_zero_le ry.1
          have hy15 : y < 16 := by omega
          have hzy : zN zs j = y := by unfold zN; rw [getD_lt hjl, hye]; rfl
          rw [hye] at hy
          have HY := hide (And.intro hye hzy)
          have hM2 := hide (hM.iff_ (fun t => (markC_start par zs i j t).symm))
          clear hye hzy ry hM
          go_wp2
          obtain ⟨wi, rfl⟩ : ∃ wi : World, wi = wr := ⟨_, rfl⟩
          go_loopw [37] (fun c wr => ∃ k : Nat, k ≤ j ∧ c = .int .i64 k ∧ Marks wr w.heap.size (MarkC par zs i j k) ∧ Below w.heap.size w wr ∧ w.heap.size < wr.heap.size) (fun c _ => j - (intOf c).toNat)
          case atStart => exact ⟨0, Nat.zero_le _, rfl, hM2.out, BR, hg⟩
          case round =>
            clear hM2 BR hg hy
            obtain ⟨k, hkj, rfl, hM, BR, hg⟩ := hrel
            by_cases hlk : k < j
            · have hkl : k < zs.length := by omega
              have hz := (BR.cell (p := ⟨b, off + k, none⟩) hbl).trans (HC.out k hkl)
              rw [getD_lt hkl] at hz
              have rz := HR.out _ (mem_of_at hkl)
              obtain ⟨z, hze⟩ := Int.eq_ofNat_of_zero_le rz.1
              have hz15 : z < 16 := by omega
              have hzz : zN zs k = z := by unfold zN; rw [getD_lt hkl, hze]; rfl
              rw [hze] at hz
              have hf15 := join_par.lt x y z hx15 hy15 hz15
              obtain ⟨ob, hcell, hfz⟩ := hM.cell hf15
              have hM2 := hide ((hM.set_ hf15).iff_ (fun t => (by rw [markC_step, HX.out.2, HY.out.2, hzz] : (MarkC par zs i j k t ∨ t = par x y z) ↔ MarkC par zs i j (k + 1) t)))
              have B2 : Below w.heap.size w (wr.setCell ⟨w.heap.size, par x y z, none⟩ (.bool true)) := BR.setCell (p := ⟨w.heap.size, par x y z, none⟩) (Nat.le_refl _) _
              have hg2 : w.heap.size < (wr.setCell ⟨w.heap.size, par x y z, none⟩ (.bool true)).heap.size := by simpa [World.setCell] using hg
              clear hze hzz rz hM
              go_wp2_with fail
              refine (sumOfThree_any x y z _ hx15 hy15 hz15).mono ?_
              rintro e w' ⟨rfl, rfl⟩
              go_wp2
              go_roundw
              case rel => exact ⟨k + 1, by omega, by go_num, hM2.out, B2, hg2⟩
              case measure => simp only [intOf]; omega
            · obtain rfl : k = j := by omega
              have hM2 := hide (hM.iff_ (fun t => markC_end par zs i k t))
              clear hM
              go_wp2
              go_roundw
              case rel => exact ⟨k + 1, by omega, by go_num, hM2.out, BR, hg⟩
              case measure => simp only [intOf]; omega
        · obtain rfl : j = i := by omega
          have hM2 := hide (hM.iff_ (fun t => markB_end par zs j t))
          clear hM
          go_wp2
          go_roundw
          case rel => exact ⟨j + 1, by omega, by go_num, hM2.out, BR, hg⟩
          case measure => simp only [intOf]; omega
    · obtain rfl : i = zs.length := by omega
      obtain ⟨hs, hl16, hblk, hiff⟩ := hM
      have HI := hide hiff
      have hinfo : (Try.prog.info? 72).map (·.size) = some (hs.map Value.bool).toArray.size := (by kernel_rfl : (Try.prog.info? 72).map (·.size) = some 16).trans (by simp [hl16])
      have hidx := index_marks hs hl16
      have HL16 := hide hl16
      clear hiff hl16 hlt hile
      go_wp2_with (refine wpList_load_row rfl 72 _ rfl w.heap.size rfl 72 _ (0, 0) _ hblk Try.underlying72 rfl hinfo ?_)
      obtain ⟨wo, rfl⟩ : ∃ wo : World, wo = wr := ⟨_, rfl⟩
      go_loopw [12, 51] (fun v c wr => ∃ t : Nat, t ≤ 16 ∧ c = .int .i64 t ∧ Owns wr wo.heap.size v (((List.range t).filter fun u => hs.getD u false).map fun (u : Nat) => (u : Int)) ∧ Below wo.heap.size wo wr) (fun _ c _ => 16 - (intOf c).toNat)
      case atStart => exact ⟨0, Nat.zero_le _, rfl, World.ownsRow_nil _ _ _ _, Below.refl _ _⟩
      case round =>
        obtain ⟨t, ht, rfl, hown, BW⟩ := hrel
        by_cases hlt : t < 16
        · have hit := hidx t hlt
          have hsz := BW.size
          have hlen : (((List.range t).filter fun u => hs.getD u false).map fun (u : Nat) => (u : Int)).length ≤ t := by
            rw [List.length_map]; exact Nat.le_trans (List.length_filter_le _ _) (by simp)
          have hnext := hide (range_filter (fun u => hs.getD u false) t)
          clear hidx
          by_cases hb : hs.getD t false = true
          · have HB := hide hb
            rw [hb] at hit
            clear hb
            go_wp2_with ((at_builtin; refine wpList_append_own _ rfl _ _ 22 rfl wo.heap.size 3 i0 (.int .i64 0) 1 8 Try.underlying22 hi0 hz0 hz1 hz2 rfl (by decide) _ _ _ rfl (hown.alloc _) ⟨wr.heap.size, 0, none⟩ 1 1 [.int .i64 t] rfl rfl ?c1 ?c2 ?c3 ?c4 ?c5 ?_))
            case c1 => exact cell_one_new wr _ _
            case c2 => intro u hu; simp at hu; subst hu; rfl
            case c3 => unfold maxLen; omega
            case c4 => omega
            case c5 => simp; omega
            intro v' w2 hown' hgrow _
            have hpush : Hid (Owns w2 wo.heap.size v' ((((List.range t).filter fun u => hs.getD u false).map fun (u : Nat) => (u : Int)) ++ [(t : Int)])) := by unfold Hid Owns; simpa [Function.comp_def] using hown'
            have hbel : Below wo.heap.size wo w2 := (BW.alloc hsz _).grown hgrow (by simp; omega) (fun j hj => own_ge hown j hj)
            clear hown' hgrow hown
            go_wp2
            go_roundw
            case rel => exact ⟨t + 1, by omega, by go_num, by rw [hnext.out, if_pos HB.out]; exact hpush.out, hbel⟩
            case measure => simp only [intOf]; omega
          · have hb : hs.getD t false = false := by simpa using hb
            have HB := hide hb
            rw [hb] at hit
            clear hb
            go_wp2
            go_roundw
            case rel => exact ⟨t + 1, by omega, by go_num, by rw [hnext.out, if_neg (by rw [HB.out]; decide), List.append_nil]; exact hown, BW⟩
            case measure => simp only [intOf]; omega
        · obtain rfl : t = 16 := by omega
          go_wp2
          go_ret
          refine ⟨_, rfl, ?_, bnext BR BW⟩
          have he : (((List.range 16).filter fun u => hs.getD u false).map fun (u : Nat) => (u : Int)) = joinL par zs := by
            unfold joinL joined
            congr 1
            refine List.filter_congr (fun u hu => ?_)
            rw [Bool.eq_iff_iff, HI.out u (List.mem_range.1 hu), markA_all]
            simp
          rw [← he]
          exact hown.le BR.size
end Go.Proofs.Ytbnnblfgpdfmpaa

/- Clo: Least closed spaces: the plain list; impl.closureOf, MedianClosure, EvenClosure. -/
namespace Go.Proofs.Ytbnnblfgpdfmpaa
open Go.RowKit Go.Joins

/-- what three make is added, k times at most -/
def cloK (f : Nat → Nat → Nat → Nat) : Nat → List Nat → List Nat
  | 0, l => joined f l
  | k + 1, l => if (joined f l).length = l.length then joined f l else cloK f k (joined f l)
def clo (f : Nat → Nat → Nat → Nat) (l : List Nat) : List Nat := cloK f (16 - l.length) l
theorem joined_le (f : Nat → Nat → Nat → Nat) (l : List Nat) : (joined f l).length ≤ 16 := by
  unfold joined
  exact Nat.le_trans (List.length_filter_le _ _) (by simp)
theorem joined_ge (f : Nat → Nat → Nat → Nat) (l : List Nat) (h : Asc l) (hl : ∀ x ∈ l, x < 16) : l.length ≤ (joined f l).length := by
  have := filter_length_le (fun x => l.contains x || decide (Made f l x)) (fun x => l.contains x) (fun x (hx : l.contains x = true) => show (l.contains x || decide (Made f l x)) = true by rw [hx]; rfl) (List.range 16)
  rw [asc_range_filter l 16 h hl] at this
  exact this
theorem joined_lt (f : Nat → Nat → Nat → Nat) (l : List Nat) : ∀ x ∈ joined f l, x < 16 := fun x hx => by
  unfold joined at hx
  exact List.mem_range.1 (List.mem_filter.1 hx).1
theorem cloK_stop {f : Nat → Nat → Nat → Nat} {l : List Nat} (h : (joined f l).length = l.length) : ∀ k, cloK f k l = joined f l
  | 0 => rfl
  | k + 1 => by rw [cloK, if_pos h]
theorem cloK_more (f : Nat → Nat → Nat → Nat) : ∀ (k : Nat) (l : List Nat), Asc l → (∀ x ∈ l, x < 16) → 16 - l.length ≤ k → cloK f (k + 1) l = cloK f k l
  | 0, l, ha, hl, hk => by
    have h1 := joined_le f l
    have h2 := joined_ge f l ha hl
    have h : (joined f l).length = l.length := by omega
    rw [cloK_stop h, cloK_stop h]
  | k + 1, l, ha, hl, hk => by
    by_cases h : (joined f l).length = l.length
    · rw [cloK_stop h, cloK_stop h]
    · have h2 := joined_ge f l ha hl
      rw [cloK, if_neg h, cloK_more f k (joined f l) (joined_asc f l) (joined_lt f l) (by omega)]
      rw [cloK, if_neg h]
theorem cloK_enough (f : Nat → Nat → Nat → Nat) (l : List Nat) (ha : Asc l) (hl : ∀ x ∈ l, x < 16) (d : Nat) : cloK f (16 - l.length + d) l = clo f l := by
  induction d with
  | zero => rfl
  | succ d ih => rw [← Nat.add_assoc, cloK_more f _ l ha hl (by omega), ih]
theorem clo_stop {f : Nat → Nat → Nat → Nat} {l : List Nat} (h : (joined f l).length = l.length) : clo f l = joined f l := cloK_stop h _
theorem clo_go {f : Nat → Nat → Nat → Nat} {l : List Nat} (ha : Asc l) (hl : ∀ x ∈ l, x < 16) (h : (joined f l).length ≠ l.length) : clo f l = clo f (joined f l) := by
  have h1 := joined_le f l
  have h2 := joined_ge f l ha hl
  have e1 : clo f l = cloK f (16 - l.length - 1) (joined f l) := by
    have e : 16 - l.length = (16 - l.length - 1) + 1 := by omega
    unfold clo
    rw [e, cloK, if_neg h]
    rfl
  have e2 := cloK_enough f (joined f l) (joined_asc f l) (joined_lt f l) (16 - l.length - 1 - (16 - (joined f l).length))
  rw [e1, ← e2]
  congr 1
  omega

/-- a list of judgments, as the closures hold it -/
def JL (ls : List Int) : Prop := (∀ x ∈ ls, 0 ≤ x ∧ x ≤ 15) ∧ Asc (ls.map Int.toNat) ∧ ls.length ≤ 16
theorem JL.lt {ls : List Int} (h : JL ls) : ∀ x ∈ ls.map Int.toNat, x < 16 := by
  intro x hx
  obtain ⟨y, hy, rfl⟩ := List.mem_map.1 hx
  have := h.1 y hy
  omega
theorem cast_toNat (l : List Nat) : (l.map fun (t : Nat) => (t : Int)).map Int.toNat = l := by
  rw [List.map_map]
  exact (List.map_congr_left (fun _ _ => by simp)).trans (List.map_id l)
theorem joinL_toNat (f : Nat → Nat → Nat → Nat) (zs : List Int) : (joinL f zs).map Int.toNat = joined f (zs.map Int.toNat) := cast_toNat _
theorem joinL_length (f : Nat → Nat → Nat → Nat) (zs : List Int) : (joinL f zs).length = (joined f (zs.map Int.toNat)).length := by unfold joinL; rw [List.length_map]
theorem JL.join (f : Nat → Nat → Nat → Nat) (zs : List Int) : JL (joinL f zs) := by
  refine ⟨fun x hx => ?_, by rw [joinL_toNat]; exact joined_asc _ _, by rw [joinL_length]; exact joined_le _ _⟩
  unfold joinL at hx
  obtain ⟨t, ht, rfl⟩ := List.mem_map.1 hx
  have := joined_lt f _ t ht
  omega
theorem asc_len16 {l : List Nat} (h : Asc l) (hl : ∀ x ∈ l, x < 16) : l.length ≤ 16 := by
  rw [← asc_range_filter l 16 h hl]
  exact Nat.le_trans (List.length_filter_le _ _) (by simp)
theorem asc_ofValid {n : Int} {zs : List Int} (h : Valid n zs) : ∀ i j, i < j → j < zs.length → zs.getD i 0 < zs.getD j 0 := by
  intro i j hij hj
  induction j with
  | zero => omega
  | succ j ih =>
    have hs := (h.2.2 (j + 1) hj).2 (by omega)
    rw [Nat.add_sub_cancel] at hs
    rcases Nat.lt_or_ge i j with h1 | h1
    · have := ih h1 (by omega)
      omega
    · obtain rfl : i = j := by omega
      exact hs
theorem JL.valid {n : Int} {zs : List Int} (h : Valid n zs) : JL zs := by
  have hr := valid_range h
  have ha : Asc (zs.map Int.toNat) := by
    unfold Asc
    rw [List.pairwise_iff_getElem]
    intro i j hi hj hij
    simp only [List.length_map] at hi hj
    have h1 := asc_ofValid h i j hij hj
    rw [getD_lt hi, getD_lt hj] at h1
    have h2 := hr _ (mem_of_at hi)
    simp only [List.getElem_map]
    omega
  have hl := asc_len16 ha (fun x hx => by
    obtain ⟨y, hy, rfl⟩ := List.mem_map.1 hx
    have := hr y hy
    omega)
  exact ⟨hr, ha, by simpa using hl⟩
/-- the least closed list -/
def cloT (f : Nat → Nat → Nat → Nat) (ls : List Int) : List Int := (clo f (ls.map Int.toNat)).map fun (t : Nat) => (t : Int)
theorem cloT_stop {f : Nat → Nat → Nat → Nat} {ls : List Int} (h : (joinL f ls).length = ls.length) : cloT f ls = joinL f ls := by
  unfold cloT
  rw [clo_stop (by rw [← joinL_length, h, List.length_map])]
  rfl
theorem cloT_go {f : Nat → Nat → Nat → Nat} {ls : List Int} (hJ : JL ls) (h : (joinL f ls).length ≠ ls.length) : cloT f (joinL f ls) = cloT f ls := by
  unfold cloT
  rw [joinL_toNat, ← clo_go hJ.2.1 hJ.lt (by rw [← joinL_length, List.length_map]; exact h)]
theorem joinL_more {f : Nat → Nat → Nat → Nat} {ls : List Int} (hJ : JL ls) (h : (joinL f ls).length ≠ ls.length) : ls.length < (joinL f ls).length := by
  have := joined_ge f _ hJ.2.1 hJ.lt
  rw [← joinL_length, List.length_map] at this
  omega

def cloN (n : Int) (zs : List Int) : Int := if vsB n zs = true then n else 0
def cloL (f : Nat → Nat → Nat → Nat) (n : Int) (zs : List Int) : List Int := if vsB n zs = true then cloT f zs else []
theorem cloN_yes {n : Int} {zs : List Int} (h : vsB n zs = true) : cloN n zs = n := if_pos h
theorem cloL_yes {f : Nat → Nat → Nat → Nat} {n : Int} {zs : List Int} (h : vsB n zs = true) : cloL f n zs = cloT f zs := if_pos h
theorem cloN_no {n : Int} {zs : List Int} (h : vsB n zs = false) : cloN n zs = 0 := if_neg (by rw [h]; decide)
theorem cloL_no {f : Nat → Nat → Nat → Nat} {n : Int} {zs : List Int} (h : vsB n zs = false) : cloL f n zs = [] := if_neg (by rw [h]; decide)

theorem cloK_le (f : Nat → Nat → Nat → Nat) : ∀ (k : Nat) (l : List Nat), (cloK f k l).length ≤ 16
  | 0, l => joined_le f l
  | k + 1, l => by
    rw [cloK]
    split
    · exact joined_le f l
    · exact cloK_le f k _
theorem cloL_len (f : Nat → Nat → Nat → Nat) (n : Int) (zs : List Int) : (cloL f n zs).length ≤ 1048576 := by
  unfold cloL
  split
  · unfold cloT
    rw [List.length_map]
    exact Nat.le_trans (cloK_le f _ _) (by omega)
  · simp

/-- a space in a variable, and the answer's cells -/
def RV (w0 : World) (n : Int) (a : Option Addr) (zs : List Int) (cap : Nat) (wx : World) : Prop :=
  Box wx w0.heap.size n a zs.length cap ∧ Ints wx a zs ∧ wx.heap[w0.heap.size + 1]? = some (.cells #[.int .i64 0, .slice none 0 0] 26 (0, 0)) ∧ Below w0.heap.size w0 wx
theorem RV.below {w0 wx wy : World} {n : Int} {a : Option Addr} {zs : List Int} {cap : Nat} (h : RV w0 n a zs cap wx) (hb : Below wx.heap.size wx wy) : RV w0 n a zs cap wy :=
  ⟨h.1.below hb, h.2.1.below hb, (hb.block _ (lt_of_block h.2.2.1)).trans h.2.2.1, bnext h.2.2.2 hb⟩
theorem RV.new (w : World) (n : Int) (a : Option Addr) (zs : List Int) (cap : Nat) (hi : Ints w a zs) :
    RV w n a zs cap ((w.alloc (.cells #[.int .i64 n, .slice a zs.length cap] 26)).alloc (.cells #[.int .i64 0, .slice none 0 0] 26)) := by
  have b1 := Box.new w n a zs.length cap 26
  have b2 := heap_alloc_new (w.alloc (.cells #[.int .i64 n, .slice a zs.length cap] 26)) (.cells #[.int .i64 0, .slice none 0 0] 26)
  simp only [World.size_alloc] at b2
  exact ⟨b1.below (bel1 _ _), hi.below (bel2 _ _ _), b2, bel2 _ _ _⟩
theorem RV.set {w0 wx : World} {n : Int} {a : Option Addr} {zs : List Int} {cap : Nat} (h : RV w0 n a zs cap wx) (u v : Value) :
    Below w0.heap.size w0 ((wx.setCell ⟨w0.heap.size + 1, 0, none⟩ u).setCell ⟨w0.heap.size + 1, 1, none⟩ v) :=
  (h.2.2.2.setCell (p := ⟨w0.heap.size + 1, 0, none⟩) (by show w0.heap.size ≤ w0.heap.size + 1; omega) u).setCell (p := ⟨w0.heap.size + 1, 1, none⟩) (by show w0.heap.size ≤ w0.heap.size + 1; omega) v
/-- how much is to come -/
def lack : Value → Nat
  | .slice _ n _ => 16 - n
  | _ => 0
end Go.Proofs.Ytbnnblfgpdfmpaa

/- Med: IsMedian and IsEven: what they answer; the model's loops. -/
namespace Go.Proofs.Ytbnnblfgpdfmpaa
open Go.RowKit Go.Joins

theorem asc_valid {n : Int} {zs : List Int} (h : Valid n zs) : ∀ i j, i < j → j < zs.length → zs.getD i 0 < zs.getD j 0 := by
  intro i j hij hj
  induction j with
  | zero => omega
  | succ j ih =>
    have hs := (h.2.2 (j + 1) hj).2 (by omega)
    rw [Nat.add_sub_cancel] at hs
    rcases Nat.lt_or_ge i j with h1 | h1
    · have := ih h1 (by omega)
      omega
    · obtain rfl : i = j := by omega
      exact hs
theorem valid_nat {n : Int} {zs : List Int} (h : Valid n zs) : Asc (zs.map Int.toNat) ∧ (∀ x ∈ zs.map Int.toNat, x < 16) := by
  constructor
  · unfold Asc
    rw [List.pairwise_iff_getElem]
    intro i j hi hj hij
    simp only [List.length_map] at hi hj
    have h1 := asc_valid h i j hij hj
    rw [getD_lt hi, getD_lt hj] at h1
    have h2 := valid_range h _ (mem_of_at hi)
    simp only [List.getElem_map]
    omega
  · intro x hx
    obtain ⟨y, hy, rfl⟩ := List.mem_map.1 hx
    have := valid_range h y hy
    omega
/-- what IsMedian, IsEven answer -/
def closedB (f : Nat → Nat → Nat → Nat) (n : Int) (zs : List Int) : Bool := vsB n zs && ((joined f (zs.map Int.toNat)).length == zs.length)
theorem closedB_no {f : Nat → Nat → Nat → Nat} {n : Int} {zs : List Int} (h : vsB n zs = false) : closedB f n zs = false := by unfold closedB; rw [h]; rfl
/-- what three of the space make is in the space -/
def In3 (f : Nat → Nat → Nat → Nat) (zs : List Int) (i j k : Nat) : Prop := ((f (zN zs i) (zN zs j) (zN zs k) : Nat) : Int) ∈ zs
theorem closed_iff {f : Nat → Nat → Nat → Nat} (J : Join f) {n : Int} {zs : List Int} (h : Valid n zs) : closedB f n zs = true ↔ ∀ i j k, i < zs.length → j < zs.length → k < zs.length → In3 f zs i j k := by
  have ⟨ha, hlt⟩ := valid_nat h
  have hz : ∀ i, i < zs.length → (zs.map Int.toNat).getD i 0 = zN zs i := fun i hi => by
    unfold zN
    simp [List.getD_eq_getElem?_getD, hi]
  have hmem : ∀ t : Nat, t ∈ zs.map Int.toNat ↔ (t : Int) ∈ zs := fun t => by
    rw [List.mem_map]
    constructor
    · rintro ⟨y, hy, rfl⟩
      have := valid_range h y hy
      rwa [Int.toNat_of_nonneg this.1]
    · intro ht
      exact ⟨t, ht, by simp⟩
  have key := joined_len_iff J (zs.map Int.toNat) ha hlt
  rw [List.length_map] at key
  unfold closedB
  rw [vsB_true h, Bool.true_and, beq_iff_eq, key]
  constructor
  · intro hc i j k hi hj hk
    exact (hmem _).1 (hc _ ⟨i, j, k, by simpa using hi, by simpa using hj, by simpa using hk, by rw [hz i hi, hz j hj, hz k hk]⟩)
  · rintro hc x ⟨i, j, k, hi, hj, hk, rfl⟩
    have hi' : i < zs.length := by simpa using hi
    have hj' : j < zs.length := by simpa using hj
    have hk' : k < zs.length := by simpa using hk
    rw [hz i hi', hz j hj', hz k hk']
    exact (hmem _).2 (hc i j k hi' hj' hk')
theorem zN_at {n : Int} {zs : List Int} (h : Valid n zs) {i : Nat} (hi : i < zs.length) : zs[i] = (zN zs i : Int) ∧ zN zs i < 16 := by
  have := valid_range h _ (mem_of_at hi)
  unfold zN
  rw [getD_lt hi]
  constructor
  · rw [Int.toNat_of_nonneg this.1]
  · omega

end Go.Proofs.Ytbnnblfgpdfmpaa

/- Vlt: A judgment of a space as a number. -/
namespace Go.Proofs.Ytbnnblfgpdfmpaa
open Go.RowKit Go.Joins

theorem valid_lt {N : Nat} {zs : List Int} (h : Valid (N : Int) zs) {z : Int} (hz : z ∈ zs) : 0 ≤ z ∧ z.toNat < 2 ^ N := by
  obtain ⟨i, hi, rfl⟩ := List.getElem_of_mem hz
  have h1 := (h.2.2 i hi).1
  rw [getD_lt hi] at h1
  have e : pw (N : Int) = ((2 ^ N : Nat) : Int) := by unfold pw; rw [Int.toNat_natCast]
  omega
end Go.Proofs.Ytbnnblfgpdfmpaa

/- CloM: The least closed spaces: plain mathematics. -/
namespace Go.Proofs.Ytbnnblfgpdfmpaa
open Go.RowKit Go.Joins

theorem cloK_sub (f : Nat → Nat → Nat → Nat) : ∀ (k : Nat) (l : List Nat), (∀ x ∈ l, x < 16) → ∀ x ∈ l, x ∈ cloK f k l
  | 0, l, hl, x, hx => sub_joined f l hl x hx
  | k + 1, l, hl, x, hx => by
    rw [cloK]
    split
    · exact sub_joined f l hl x hx
    · exact cloK_sub f k (joined f l) (joined_lt f l) x (sub_joined f l hl x hx)
theorem joined_in {f : Nat → Nat → Nat → Nat} (J : Join f) {T : Nat → Prop} (hT : ∀ a b c, T a → T b → T c → T (f a b c)) {l : List Nat} (hl : ∀ x ∈ l, x < 16) (h : ∀ x ∈ l, T x) : ∀ x ∈ joined f l, T x := fun x hx => by
  obtain ⟨i, j, k, hi, hj, hk, rfl⟩ := (mem_joined J l hl x).1 hx
  exact hT _ _ _ (h _ (mem_getD hi)) (h _ (mem_getD hj)) (h _ (mem_getD hk))
theorem cloK_min {f : Nat → Nat → Nat → Nat} (J : Join f) {T : Nat → Prop} (hT : ∀ a b c, T a → T b → T c → T (f a b c)) : ∀ (k : Nat) (l : List Nat), (∀ x ∈ l, x < 16) → (∀ x ∈ l, T x) → ∀ x ∈ cloK f k l, T x
  | 0, l, hl, h, x, hx => joined_in J hT hl h x hx
  | k + 1, l, hl, h, x, hx => by
    rw [cloK] at hx
    split at hx
    · exact joined_in J hT hl h x hx
    · exact cloK_min J hT k (joined f l) (joined_lt f l) (joined_in J hT hl h) x hx
theorem joined_same {f : Nat → Nat → Nat → Nat} (J : Join f) {l : List Nat} (ha : Asc l) (hl : ∀ x ∈ l, x < 16) (h : (joined f l).length = l.length) : joined f l = l :=
  asc_ext _ _ (joined_asc f l) ha (fun x => ⟨fun hx => (joined_len_iff J l ha hl).1 h x ((mem_joined J l hl x).1 hx), sub_joined f l hl x⟩)
theorem cloK_closed {f : Nat → Nat → Nat → Nat} (J : Join f) : ∀ (k : Nat) (l : List Nat), Asc l → (∀ x ∈ l, x < 16) → 16 - l.length ≤ k → (joined f (cloK f k l)).length = (cloK f k l).length
  | 0, l, ha, hl, hk => by
    have h1 := joined_ge f l ha hl
    have h2 := joined_le f l
    have h3 := joined_ge f (joined f l) (joined_asc f l) (joined_lt f l)
    have h4 := joined_le f (joined f l)
    show (joined f (joined f l)).length = (joined f l).length
    omega
  | k + 1, l, ha, hl, hk => by
    rw [cloK]
    split
    · rename_i h
      rw [joined_same J ha hl h, h]
    · rename_i h
      have h1 := joined_ge f l ha hl
      exact cloK_closed J k (joined f l) (joined_asc f l) (joined_lt f l) (by omega)
theorem cloK_asc (f : Nat → Nat → Nat → Nat) : ∀ (k : Nat) (l : List Nat), Asc (cloK f k l)
  | 0, l => joined_asc f l
  | k + 1, l => by
    rw [cloK]
    split
    · exact joined_asc f l
    · exact cloK_asc f k _
theorem valid_ofAsc {N : Nat} (hN : 1 ≤ N ∧ N ≤ 4) {l : List Nat} (ha : Asc l) (hl : ∀ x ∈ l, x < 2 ^ N) (hp : 0 < l.length) : Valid (N : Int) (l.map fun (t : Nat) => (t : Int)) := by
  have e : pw (N : Int) = ((2 ^ N : Nat) : Int) := by unfold pw; rw [Int.toNat_natCast]
  refine ⟨by omega, by rw [List.length_map]; exact hp, fun i hi => ?_⟩
  rw [List.length_map] at hi
  refine ⟨?_, fun h0 => ?_⟩
  · rw [getD_lt (by rw [List.length_map]; exact hi), List.getElem_map]
    have := hl _ (List.getElem_mem hi)
    omega
  · rw [getD_lt (k := i) (by rw [List.length_map]; exact hi), getD_lt (k := i - 1) (by rw [List.length_map]; omega), List.getElem_map, List.getElem_map]
    have := List.pairwise_iff_getElem.1 ha (i - 1) i (show i - 1 < l.length from by omega) hi (by omega)
    omega
section
variable {f : Nat → Nat → Nat → Nat} {N : Nat} {zs : List Int}
theorem clo_mem (hV : Valid (N : Int) zs) {x : Nat} (h : (x : Int) ∈ zs) : (x : Int) ∈ cloT f zs := by
  have hm : x ∈ zs.map Int.toNat := List.mem_map.2 ⟨_, h, by simp⟩
  unfold cloT
  exact List.mem_map.2 ⟨x, cloK_sub f _ _ (valid_nat hV).2 x hm, rfl⟩
theorem clo_valid (J : Join f) (hf : ∀ x y z, x < 2 ^ N → y < 2 ^ N → z < 2 ^ N → f x y z < 2 ^ N) (hV : Valid (N : Int) zs) : Valid (N : Int) (cloT f zs) := by
  have hN := hV.1
  refine valid_ofAsc (by omega) (cloK_asc f _ _) (cloK_min J hf _ _ (valid_nat hV).2 (fun x hx => ?_)) ?_
  · obtain ⟨z, hz, rfl⟩ := List.mem_map.1 hx
    exact (valid_lt hV hz).2
  · have hpos := hV.2.1
    have hm : zs[0].toNat ∈ zs.map Int.toNat := List.mem_map.2 ⟨zs[0], List.getElem_mem hpos, rfl⟩
    exact List.length_pos_of_mem (cloK_sub f _ _ (valid_nat hV).2 _ hm)
theorem clo_closed (J : Join f) (hf : ∀ x y z, x < 2 ^ N → y < 2 ^ N → z < 2 ^ N → f x y z < 2 ^ N) (hV : Valid (N : Int) zs) : closedB f (N : Int) (cloT f zs) = true := by
  have h1 := clo_valid J hf hV
  unfold closedB
  rw [vsB_true h1, Bool.true_and, beq_iff_eq]
  unfold cloT
  rw [cast_toNat, List.length_map]
  exact cloK_closed J _ _ (valid_nat hV).1 (valid_nat hV).2 (by rw [List.length_map]; exact Nat.le_refl _)
/-- the closure is the space itself exactly if that is closed -/
theorem clo_self (J : Join f) (hf : ∀ x y z, x < 2 ^ N → y < 2 ^ N → z < 2 ^ N → f x y z < 2 ^ N) (hV : Valid (N : Int) zs) : decide (cloT f zs = zs) = closedB f (N : Int) zs := by
  rw [Bool.eq_iff_iff, decide_eq_true_iff]
  constructor
  · intro h
    have := clo_closed J hf hV
    rwa [h] at this
  · intro h
    unfold closedB at h
    rw [vsB_true hV, Bool.true_and, beq_iff_eq] at h
    have hl : (zs.map Int.toNat).length = zs.length := List.length_map _
    have e := joined_same J (valid_nat hV).1 (valid_nat hV).2 (by omega)
    unfold cloT
    rw [clo_stop (by omega), e, List.map_map]
    refine (List.map_congr_left (fun z hz => ?_)).trans (List.map_id zs)
    have h1 := valid_lt hV hz
    show ((z.toNat : Nat) : Int) = z
    omega
end
end Go.Proofs.Ytbnnblfgpdfmpaa

/- CrE: Critical parts: which parts a judgment has. Plain mathematics. -/
namespace Go.Proofs.Ytbnnblfgpdfmpaa
open Go.RowKit Go.Joins

set_option maxRecDepth 100000 in
theorem ord_all : range5 (fun n => (List.range (2 ^ n)).all fun c => (List.range (2 ^ n)).all fun b => !(b &&& c == b) || (ordL n).contains (c, b)) = true := by decide +kernel
theorem ord_mem {n : Nat} (hn : n ≤ 4) {c b : Nat} (hc : c < 2 ^ n) (hb : b &&& c = b) : (c, b) ∈ ordL n := by
  have hb' : b < 2 ^ n := by
    have : b &&& c ≤ c := Nat.and_le_right
    omega
  have h := range5_of ord_all hn
  rw [List.all_eq_true] at h
  have h1 := h c (List.mem_range.2 hc)
  rw [List.all_eq_true] at h1
  have h2 := h1 b (List.mem_range.2 hb')
  rw [show (b &&& c == b) = true from by simpa using hb] at h2
  simpa using h2
theorem crit_mem {n : Nat} {zs : List Int} {m : Nat × Nat} : m ∈ critL n zs ↔ m ∈ ordL n ∧ crB n zs m = true := List.mem_filter
/-- open exactly if no critical part lies in it -/
theorem opn_crit {n : Nat} (hn : n ≤ 4) (zs : List Int) {p : Nat × Nat} (hp : p ∈ ordL n) : opn zs p = !(critL n zs).any fun m => subP m p := by
  rw [Bool.eq_iff_iff, Bool.not_eq_true', List.any_eq_false]
  constructor
  · intro ho m hm hs
    have := (cr_iff.1 (crit_mem.1 hm).2).1
    rw [opn_sub hs ho] at this
    cases this
  · intro h
    rcases Bool.eq_false_or_eq_true (opn zs p) with ho | ho
    · exact ho
    · obtain ⟨m, hm, hc, hs⟩ := cr_ex hn zs _ p hp (Nat.le_refl _) ho
      exact absurd hs (h m (crit_mem.2 ⟨hm, hc⟩))
theorem and_full {n x : Nat} (hx : x < 2 ^ n) : x &&& (2 ^ n - 1) = x := by rw [Nat.and_two_pow_sub_one_eq_mod, Nat.mod_eq_of_lt hx]
theorem sub_full {N : Nat} {m : Nat × Nat} (hm : m.1 < 2 ^ N) (x : Nat) : subP m (2 ^ N - 1, x) = (x &&& m.1 == m.2) := by
  unfold subP
  rw [and_full hm]
  simp
theorem full_mem {n : Nat} (hn : n ≤ 4) {x : Nat} (hx : x < 2 ^ n) : (2 ^ n - 1, x) ∈ ordL n :=
  ord_mem hn (by have := Nat.two_pow_pos n; omega) (and_full hx)
theorem opn_full {N : Nat} {zs : List Int} (hV : Valid (N : Int) zs) {x : Nat} (hx : x < 2 ^ N) : opn zs (2 ^ N - 1, x) = true ↔ (x : Int) ∈ zs := by
  rw [opn_iff]
  constructor
  · rintro ⟨z, hz, e⟩
    have h1 := valid_lt hV hz
    rw [and_full h1.2] at e
    have e2 : (x : Int) = z := by
      have e' : z.toNat = x := e
      omega
    rw [e2]
    exact hz
  · intro h
    exact ⟨(x : Int), h, by rw [Int.toNat_natCast]; exact and_full hx⟩
/-- a critical part answers something, and is a part that is not open -/
theorem crit_pt {N : Nat} {zs : List Int} (hV : Valid (N : Int) zs) {m : Nat × Nat} (hm : m ∈ critL N zs) : m.1 ≠ 0 ∧ IsPt (N : Int) (m.1 : Int) (m.2 : Int) ∧ openB zs (m.1 : Int) (m.2 : Int) = false ∧ m.1 < 16 ∧ m.2 < 16 := by
  have hn : N ≤ 4 := by have := hV.1; omega
  obtain ⟨h1, h2⟩ := crit_mem.1 hm
  have hf := ord_facts hn h1
  have ho := (cr_iff.1 h2).1
  have e : pw (N : Int) = ((2 ^ N : Nat) : Int) := by unfold pw; rw [Int.toNat_natCast]
  have p2 : 2 ^ N ≤ 16 := Nat.pow_le_pow_right (n := 2) (by omega) hn
  have hb : m.2 ≤ m.1 := by rw [← hf.2.1]; exact Nat.and_le_right
  refine ⟨fun h0 => ?_, ⟨⟨by omega, by omega⟩, ⟨by omega, by omega⟩, by rw [Int.toNat_natCast, Int.toNat_natCast]; exact hf.2.1⟩, ho, by omega, by omega⟩
  have hx : opn zs m = true := by
    rw [opn_iff]
    have hpos := hV.2.1
    refine ⟨zs[0], List.getElem_mem hpos, ?_⟩
    rw [h0, Nat.and_zero]
    omega
  rw [ho] at hx
  cases hx

set_option maxRecDepth 100000 in
theorem less_chk : ((List.range 16).all fun c => (List.range 16).all fun b => (List.range 4).all fun i => !(bitN c i == 1 && b &&& c == b) || (List.range 16).all fun x => !(x &&& (c - 2 ^ i) == b - (b &&& 2 ^ i)) || (List.range 4).all fun t => t == i || bitN (x &&& c) t == bitN b t) = true := by decide +kernel
theorem less_bit {c b i x t : Nat} (hc : c < 16) (hb : b &&& c = b) (hi : i < 4) (hx : x < 16) (hci : bitN c i = 1) (he : x &&& (c - 2 ^ i) = b - (b &&& 2 ^ i)) (ht : t < 4) (hne : t ≠ i) : bitN (x &&& c) t = bitN b t := by
  have hb16 : b < 16 := by
    have : b &&& c ≤ c := Nat.and_le_right
    omega
  have h := less_chk
  rw [List.all_eq_true] at h
  have h1 := h c (List.mem_range.2 hc)
  rw [List.all_eq_true] at h1
  have h2 := h1 b (List.mem_range.2 hb16)
  rw [List.all_eq_true] at h2
  have h3 := h2 i (List.mem_range.2 hi)
  rw [show (bitN c i == 1 && b &&& c == b) = true from by simp [hci, hb], Bool.not_true, Bool.false_or, List.all_eq_true] at h3
  have h4 := h3 x (List.mem_range.2 hx)
  rw [show (x &&& (c - 2 ^ i) == b - (b &&& 2 ^ i)) = true from by simpa using he, Bool.not_true, Bool.false_or, List.all_eq_true] at h4
  have h5 := h4 t (List.mem_range.2 ht)
  rw [show (t == i) = false from by simpa using hne, Bool.false_or, beq_iff_eq] at h5
  exact h5
theorem bits_ext {a b : Nat} (ha : a < 16) (hb : b < 16) (h : ∀ t, t < 4 → bitN a t = bitN b t) : a = b := by
  have h0 := h 0 (by omega)
  have h1 := h 1 (by omega)
  have h2 := h 2 (by omega)
  have h3 := h 3 (by omega)
  unfold bitN at h0 h1 h2 h3
  simp only [Nat.reducePow] at h0 h1 h2 h3
  omega
end Go.Proofs.Ytbnnblfgpdfmpaa

/- CrN: Critical parts: what the laws say of them. Plain mathematics. -/
namespace Go.Proofs.Ytbnnblfgpdfmpaa
open Go.RowKit Go.Joins

theorem free_of (L : List (Nat × Nat)) (x : Nat) : freeB (ofP L) (x : Int) = L.all fun m => !(x &&& m.1 == m.2) := by
  unfold freeB ofP
  rw [List.all_map]
  exact congrArg (fun g => L.all g) (funext fun m => by
    show (!hpB (x : Int) (m.1 : Int) (m.2 : Int)) = _
    rw [hp_nat, Int.toNat_natCast])
theorem swK_of {N : Nat} {zs : List Int} (hV : Valid (N : Int) zs) {ps : List (Int × Int)} (h : ∀ x : Nat, x < 2 ^ N → (freeB ps (x : Int) = true ↔ (x : Int) ∈ zs)) : swK ps (2 ^ N) = zs := by
  have e : (List.range (2 ^ N)).filter (fun (x : Nat) => freeB ps (x : Int)) = zs.map Int.toNat := by
    refine asc_ext _ _ (asc_filter (asc_range _) _) (valid_nat hV).1 (fun x => ?_)
    rw [List.mem_filter, List.mem_range, List.mem_map]
    constructor
    · rintro ⟨h1, h2⟩
      exact ⟨(x : Int), (h x h1).1 h2, Int.toNat_natCast x⟩
    · rintro ⟨z, hz, rfl⟩
      have h1 := valid_lt hV hz
      refine ⟨h1.2, (h _ h1.2).2 ?_⟩
      rw [Int.toNat_of_nonneg h1.1]
      exact hz
  unfold swK
  rw [e, List.map_map]
  refine (List.map_congr_left (fun z hz => ?_)).trans (List.map_id zs)
  have h1 := valid_lt hV hz
  show ((z.toNat : Nat) : Int) = z
  omega
/-- the space without its critical parts is the space -/
theorem sw_crit {N : Nat} {zs : List Int} (hV : Valid (N : Int) zs) : swK (ofP (critL N zs)) (2 ^ N) = zs := by
  have hn : N ≤ 4 := by have := hV.1; omega
  refine swK_of hV (fun x hx => ?_)
  rw [← opn_full hV hx, opn_crit hn zs (full_mem hn hx), free_of, List.all_eq_true, Bool.not_eq_true', List.any_eq_false]
  constructor
  · intro h m hm hs
    rw [sub_full (ord_facts hn (crit_mem.1 hm).1).1] at hs
    have := h m hm
    rw [hs] at this
    cases this
  · intro h m hm
    have := h m hm
    rw [sub_full (ord_facts hn (crit_mem.1 hm).1).1] at this
    simpa using this
/-! ### medians -/
set_option maxRecDepth 100000 in
theorem med_chk : ((List.range 16).all fun c => decide (2 < wt c) || (List.range 16).all fun x => (List.range 16).all fun y => (List.range 16).all fun z => (med x y z &&& c == x &&& c) || (med x y z &&& c == y &&& c) || (med x y z &&& c == z &&& c)) = true := by decide +kernel
theorem med_two {c x y z : Nat} (hc : c < 16) (hw : wt c ≤ 2) (hx : x < 16) (hy : y < 16) (hz : z < 16) : med x y z &&& c = x &&& c ∨ med x y z &&& c = y &&& c ∨ med x y z &&& c = z &&& c := by
  have h := med_chk
  rw [List.all_eq_true] at h
  have h1 := h c (List.mem_range.2 hc)
  rw [show decide (2 < wt c) = false from decide_eq_false (by omega), Bool.false_or, List.all_eq_true] at h1
  have h2 := h1 x (List.mem_range.2 hx)
  rw [List.all_eq_true] at h2
  have h3 := h2 y (List.mem_range.2 hy)
  rw [List.all_eq_true] at h3
  have h4 := h3 z (List.mem_range.2 hz)
  simp only [Bool.or_eq_true, beq_iff_eq] at h4
  rcases h4 with (h4 | h4) | h4
  · exact .inl h4
  · exact .inr (.inl h4)
  · exact .inr (.inr h4)
set_option maxRecDepth 100000 in
theorem three_chk : ((List.range 16).all fun c => decide (wt c ≤ 2) || (List.range 4).any fun i => (List.range 4).any fun j => (List.range 4).any fun k => decide (i < j) && decide (j < k) && (bitN c i == 1) && (bitN c j == 1) && (bitN c k == 1)) = true := by decide +kernel
theorem three_of {c : Nat} (hc : c < 16) (hw : ¬ wt c ≤ 2) : ∃ i j k, i < j ∧ j < k ∧ k < 4 ∧ bitN c i = 1 ∧ bitN c j = 1 ∧ bitN c k = 1 := by
  have h := three_chk
  rw [List.all_eq_true] at h
  have h1 := h c (List.mem_range.2 hc)
  rw [decide_eq_false hw, Bool.false_or, List.any_eq_true] at h1
  obtain ⟨i, _, h2⟩ := h1
  rw [List.any_eq_true] at h2
  obtain ⟨j, _, h3⟩ := h2
  rw [List.any_eq_true] at h3
  obtain ⟨k, hk, h4⟩ := h3
  simp only [Bool.and_eq_true, decide_eq_true_eq, beq_iff_eq] at h4
  obtain ⟨⟨⟨⟨a, b⟩, d⟩, e⟩, f⟩ := h4
  exact ⟨i, j, k, a, b, List.mem_range.1 hk, d, e, f⟩
set_option maxRecDepth 100000 in
theorem mbit_chk : ∀ x : Fin 16, ∀ y : Fin 16, ∀ z : Fin 16, ∀ j : Fin 4, bitN (med x.val y.val z.val) j.val = if 2 ≤ bitN x.val j.val + bitN y.val j.val + bitN z.val j.val then 1 else 0 := by decide +kernel
theorem mbit {x y z j : Nat} (hx : x < 16) (hy : y < 16) (hz : z < 16) (hj : j < 4) : bitN (med x y z) j = if 2 ≤ bitN x j + bitN y j + bitN z j then 1 else 0 := mbit_chk ⟨x, hx⟩ ⟨y, hy⟩ ⟨z, hz⟩ ⟨j, hj⟩
theorem med_and (x y z c : Nat) : med x y z &&& c = med (x &&& c) (y &&& c) (z &&& c) := by
  unfold med
  apply Nat.eq_of_testBit_eq
  intro i
  simp only [Nat.testBit_or, Nat.testBit_and]
  cases x.testBit i <;> cases y.testBit i <;> cases z.testBit i <;> cases c.testBit i <;> rfl
/-- closed under medians, said of its judgments -/
theorem closed_mem {f : Nat → Nat → Nat → Nat} (J : Join f) {n : Int} {zs : List Int} (h : Valid n zs) : closedB f n zs = true ↔ ∀ a b c : Nat, (a : Int) ∈ zs → (b : Int) ∈ zs → (c : Int) ∈ zs → ((f a b c : Nat) : Int) ∈ zs := by
  rw [closed_iff J h]
  constructor
  · intro hc a b c ha hb hcc
    have at_ : ∀ t : Nat, (t : Int) ∈ zs → ∃ i, i < zs.length ∧ zN zs i = t := fun t ht => by
      obtain ⟨i, hi, e⟩ := List.getElem_of_mem ht
      exact ⟨i, hi, by unfold zN; rw [getD_lt hi, e]; simp⟩
    obtain ⟨i, hi, rfl⟩ := at_ a ha
    obtain ⟨j, hj, rfl⟩ := at_ b hb
    obtain ⟨k, hk, rfl⟩ := at_ c hcc
    exact hc i j k hi hj hk
  · intro hc i j k hi hj hk
    have hm : ∀ i, i < zs.length → ((zN zs i : Nat) : Int) ∈ zs := fun i hi => by
      have h1 := valid_range h _ (List.getElem_mem hi)
      have e : ((zN zs i : Nat) : Int) = zs[i] := by unfold zN; rw [getD_lt hi]; omega
      rw [e]
      exact List.getElem_mem hi
    exact hc _ _ _ (hm i hi) (hm j hj) (hm k hk)
/-- a space with small critical parts alone is closed under medians -/
theorem median_small {N : Nat} {zs : List Int} (hV : Valid (N : Int) zs) : closedB med (N : Int) zs = (critL N zs).all fun m => decide (wt m.1 ≤ 2) := by
  have hn : N ≤ 4 := by have := hV.1; omega
  have p2 : 2 ^ N ≤ 16 := Nat.pow_le_pow_right (n := 2) (by omega) hn
  rw [Bool.eq_iff_iff, closed_mem join_med hV, List.all_eq_true]
  constructor
  · intro hc m hm
    rw [decide_eq_true_iff]
    refine Classical.byContradiction fun hw => ?_
    obtain ⟨_, hpt, ho, h16, hb16⟩ := crit_pt hV hm
    have hf := ord_facts hn (crit_mem.1 hm).1
    have hcr := (cr_iff.1 (crit_mem.1 hm).2).2
    obtain ⟨i, j, k, hij, hjk, hk4, bi, bj, bk⟩ := three_of h16 hw
    have hlt : ∀ t, bitN m.1 t = 1 → t < N := fun t ht => by
      refine Classical.byContradiction fun h => ?_
      have h1 : m.1 < 2 ^ t := Nat.lt_of_lt_of_le hf.1 (Nat.pow_le_pow_right (by omega) (by omega))
      unfold bitN at ht
      rw [Nat.div_eq_of_lt h1] at ht
      omega
    have wit : ∀ t, bitN m.1 t = 1 → ∃ x : Nat, (x : Int) ∈ zs ∧ x < 16 ∧ x &&& (m.1 - 2 ^ t) = m.2 - (m.2 &&& 2 ^ t) := fun t ht => by
      obtain ⟨z, hz, e⟩ := opn_iff.1 (hcr t (hlt t ht) ht)
      have h1 := valid_lt hV hz
      exact ⟨z.toNat, by rw [Int.toNat_of_nonneg h1.1]; exact hz, by omega, e⟩
    obtain ⟨x, mx, x16, ex⟩ := wit i bi
    obtain ⟨y, my, y16, ey⟩ := wit j bj
    obtain ⟨z, mz, z16, ez⟩ := wit k bk
    have hmem := hc x y z mx my mz
    have hX : ∀ u, u &&& m.1 < 16 := fun u => by
      have : u &&& m.1 ≤ m.1 := Nat.and_le_right
      omega
    have he : med x y z &&& m.1 = m.2 := by
      rw [med_and]
      refine bits_ext (join_med.lt _ _ _ (hX x) (hX y) (hX z)) hb16 (fun t ht => ?_)
      rw [mbit (hX x) (hX y) (hX z) ht]
      have l1 := bitN_le (x &&& m.1) t
      have l2 := bitN_le (y &&& m.1) t
      have l3 := bitN_le (z &&& m.1) t
      have l4 := bitN_le m.2 t
      have a1 : t ≠ i → bitN (x &&& m.1) t = bitN m.2 t := less_bit h16 hf.2.1 (by omega) x16 bi ex ht
      have a2 : t ≠ j → bitN (y &&& m.1) t = bitN m.2 t := less_bit h16 hf.2.1 (by omega) y16 bj ey ht
      have a3 : t ≠ k → bitN (z &&& m.1) t = bitN m.2 t := less_bit h16 hf.2.1 (by omega) z16 bk ez ht
      by_cases e1 : t = i
      · have b2 := a2 (by omega)
        have b3 := a3 (by omega)
        split <;> omega
      · have b1 := a1 e1
        by_cases e2 : t = j
        · have b3 := a3 (by omega)
          split <;> omega
        · have b2 := a2 e2
          split <;> omega
    have hop : opn zs m = true := opn_iff.2 ⟨_, hmem, by rw [Int.toNat_natCast]; exact he⟩
    have hno : opn zs m = false := ho
    rw [hop] at hno
    cases hno
  · intro hall a b c ha hb hcc
    have lt_ : ∀ t : Nat, (t : Int) ∈ zs → t < 2 ^ N := fun t ht => by
      have := valid_lt hV ht
      omega
    have hm2 : med a b c < 2 ^ N := by
      unfold med
      exact Nat.or_lt_two_pow (Nat.or_lt_two_pow (Nat.and_lt_two_pow _ (lt_ b hb)) (Nat.and_lt_two_pow _ (lt_ c hcc))) (Nat.and_lt_two_pow _ (lt_ c hcc))
    rw [← opn_full hV hm2, opn_crit hn zs (full_mem hn hm2), Bool.not_eq_true', List.any_eq_false]
    intro m hm hs
    obtain ⟨_, _, ho, h16, _⟩ := crit_pt hV hm
    rw [sub_full (ord_facts hn (crit_mem.1 hm).1).1, beq_iff_eq] at hs
    have hw := hall m hm
    rw [decide_eq_true_iff] at hw
    have hno : opn zs m = false := ho
    have yes : ∀ t : Nat, (t : Int) ∈ zs → t &&& m.1 = m.2 → False := fun t ht e => by
      have : opn zs m = true := opn_iff.2 ⟨(t : Int), ht, by rw [Int.toNat_natCast]; exact e⟩
      rw [this] at hno
      cases hno
    rcases med_two (x := a) (y := b) (z := c) h16 hw (by have := lt_ a ha; omega) (by have := lt_ b hb; omega) (by have := lt_ c hcc; omega) with e | e | e
    · exact yes a ha (e.symm.trans hs)
    · exact yes b hb (e.symm.trans hs)
    · exact yes c hcc (e.symm.trans hs)
end Go.Proofs.Ytbnnblfgpdfmpaa

/- CrC: The least median space and the small critical parts. Plain mathematics. -/
namespace Go.Proofs.Ytbnnblfgpdfmpaa
open Go.RowKit Go.Joins

theorem medlt (N : Nat) : ∀ x y z, x < 2 ^ N → y < 2 ^ N → z < 2 ^ N → med x y z < 2 ^ N := fun x y z _ hy hz => by
  unfold med
  exact Nat.or_lt_two_pow (Nat.or_lt_two_pow (Nat.and_lt_two_pow _ hy) (Nat.and_lt_two_pow _ hz)) (Nat.and_lt_two_pow _ hz)
/-- the critical parts that answer at most two issues -/
def critS (n : Nat) (zs : List Int) : List (Nat × Nat) := (critL n zs).filter fun m => decide (wt m.1 ≤ 2)
theorem small_clo {N : Nat} {zs : List Int} (hV : Valid (N : Int) zs) : swK (ofP (critS N zs)) (2 ^ N) = cloT med zs := by
  have hn : N ≤ 4 := by have := hV.1; omega
  have p2 : 2 ^ N ≤ 16 := Nat.pow_le_pow_right (n := 2) (by omega) hn
  have hC := clo_valid join_med (medlt N) hV
  have hcl := clo_closed join_med (medlt N) hV
  refine swK_of hC (fun x hx => ?_)
  rw [free_of, List.all_eq_true]
  constructor
  · intro hfree
    rw [← opn_full hC hx]
    rcases Bool.eq_false_or_eq_true (opn (cloT med zs) (2 ^ N - 1, x)) with h | h
    · exact h
    · exfalso
      rw [opn_crit hn _ (full_mem hn hx), Bool.not_eq_false', List.any_eq_true] at h
      obtain ⟨p, hp, hs⟩ := h
      rw [median_small hC, List.all_eq_true] at hcl
      have hw := hcl p hp
      rw [decide_eq_true_iff] at hw
      have hpo := (crit_mem.1 hp).1
      have hno : opn (cloT med zs) p = false := (cr_iff.1 (crit_mem.1 hp).2).1
      have hnz : opn zs p = false := by
        rcases Bool.eq_false_or_eq_true (opn zs p) with h1 | h1
        · exfalso
          obtain ⟨z, hz, e⟩ := opn_iff.1 h1
          have hz0 := valid_lt hV hz
          have hz' : ((z.toNat : Nat) : Int) ∈ zs := by rw [Int.toNat_of_nonneg hz0.1]; exact hz
          have : opn (cloT med zs) p = true := opn_iff.2 ⟨_, clo_mem hV hz', by rw [Int.toNat_natCast]; exact e⟩
          rw [this] at hno
          cases hno
        · exact h1
      obtain ⟨m, hm, hc, hsm⟩ := cr_ex hn zs _ p hpo (Nat.le_refl _) hnz
      have hwm : wt m.1 ≤ 2 := by
        by_cases e : m = p
        · rw [e]; exact hw
        · have := (sub_facts hn hpo hm hsm e).1
          omega
      have hmS : m ∈ critS N zs := List.mem_filter.2 ⟨crit_mem.2 ⟨hm, hc⟩, by simpa using hwm⟩
      have h1 := hfree m hmS
      have h2 := subP_trans hsm hs
      rw [sub_full (ord_facts hn hm).1] at h2
      rw [h2] at h1
      cases h1
  · intro hx' m hm
    obtain ⟨hmc, hw⟩ := List.mem_filter.1 hm
    rw [decide_eq_true_iff] at hw
    obtain ⟨_, _, ho, h16, _⟩ := crit_pt hV hmc
    have hno : opn zs m = false := ho
    have hT : ∀ y ∈ clo med (zs.map Int.toNat), y < 16 ∧ y &&& m.1 ≠ m.2 := by
      refine cloK_min join_med (T := fun y => y < 16 ∧ y &&& m.1 ≠ m.2) (fun a b c ha hb hc => ⟨join_med.lt _ _ _ ha.1 hb.1 hc.1, fun e => ?_⟩) _ _ (valid_nat hV).2 (fun y hy => ?_)
      · rcases med_two h16 hw ha.1 hb.1 hc.1 with e1 | e1 | e1
        · exact ha.2 (e1.symm.trans e)
        · exact hb.2 (e1.symm.trans e)
        · exact hc.2 (e1.symm.trans e)
      · refine ⟨(valid_nat hV).2 y hy, fun e => ?_⟩
        obtain ⟨z, hz, rfl⟩ := List.mem_map.1 hy
        have : opn zs m = true := opn_iff.2 ⟨z, hz, e⟩
        rw [this] at hno
        cases hno
    unfold cloT at hx'
    obtain ⟨y, hy, e⟩ := List.mem_map.1 hx'
    obtain rfl : y = x := by omega
    have := (hT y hy).2
    simpa using this
theorem sw_yes {N : Nat} {zs : List Int} (hV : Valid (N : Int) zs) {L : List (Nat × Nat)} (hL : ∀ m ∈ L, m ∈ critL N zs) (hl : L.length ≤ 10) {C : List Int} (hC : swK (ofP L) (2 ^ N) = C) (hp : 0 < C.length) : swN (N : Int) (ofP L) = N ∧ swL (N : Int) (ofP L) = C ∧ swB (N : Int) (ofP L) = true := by
  have hy : SwYes (N : Int) (ofP L) := by
    refine ⟨⟨hV.1, by unfold ofP; rw [List.length_map]; exact hl, fun j hj => ?_⟩, by rw [Int.toNat_natCast, hC]; omega⟩
    have hj' : j < L.length := by unfold ofP at hj; rwa [List.length_map] at hj
    have h1 := (crit_pt hV (hL _ (List.getElem_mem hj'))).2.1
    have e : (ofP L).getD j (0, 0) = ((L[j].1 : Int), (L[j].2 : Int)) := by
      unfold ofP
      rw [List.getD_eq_getElem?_getD, List.getElem?_map, List.getElem?_eq_getElem hj']
      rfl
    rw [e]
    exact h1
  unfold swN swL swB
  rw [if_pos hy, if_pos hy, Int.toNat_natCast, hC]
  exact ⟨rfl, rfl, decide_eq_true hy⟩
end Go.Proofs.Ytbnnblfgpdfmpaa

/- LawH: The helpers of the laws of promises: equalInts, isIn, among, ascends, weight, power. -/
namespace Go.Proofs.Ytbnnblfgpdfmpaa
open Go.RowKit Go.Joins


/-- whether two lists are the same -/
def eqB (xs ys : List Int) : Bool := decide (xs = ys)
theorem eqB_refl (xs : List Int) : eqB xs xs = true := by simp [eqB]
set_option maxHeartbeats 400000 in
theorem equalInts_any (a b : Option Addr) (ca cb : Nat) (xs ys : List Int) (w : World) (hx : Ints w a xs) (hy : Ints w b ys) (hn : xs.length ≤ 1048576) (hm : ys.length ≤ 1048576) :
    Calls Try.prog 49 #[.slice a xs.length ca, .slice b ys.length cb] w fun e w' => e = .returned (.bool (eqB xs ys)) ∧ Below w.heap.size w w' := by
  by_cases hl : xs.length = ys.length
  · have hne : ((xs.length : Int) != (ys.length : Int)) = false := by simp [hl]
    have HL := hide hl
    clear hl
    go_enter Try.func49, Try.ntmps49
    go_wp2
    go_loopw [5] (fun i wr => ∃ k : Nat, k ≤ xs.length ∧ i = .int .i64 k ∧ (∀ j, j < k → xs.getD j 0 = ys.getD j 0) ∧ Below w.heap.size w wr) (fun i _ => xs.length - (intOf i).toNat)
    case atStart => exact ⟨0, Nat.zero_le _, rfl, fun j hj => by omega, Below.refl _ _⟩
    case round =>
      obtain ⟨k, hk, rfl, hall, hb⟩ := hrel
      have HA := hide hall
      clear hall
      by_cases hlt : k < xs.length
      · obtain ⟨b1, o1, rfl, hb1, hc1⟩ := hx (by omega)
        obtain ⟨b2, o2, rfl, hb2, hc2⟩ := hy (by rw [← HL.out]; omega)
        have hlt2 : k < ys.length := by rw [← HL.out]; exact hlt
        have h1 := (hb.cell (p := ⟨b1, o1 + k, none⟩) hb1).trans (hc1 k hlt)
        have h2 := (hb.cell (p := ⟨b2, o2 + k, none⟩) hb2).trans (hc2 k hlt2)
        clear hc1 hc2
        rw [getD_lt hlt] at h1
        rw [getD_lt hlt2] at h2
        by_cases he : xs[k] = ys[k]
        · have hE : (xs[k] != ys[k]) = false := by simpa using he
          have HE := hide he
          clear he
          go_wp2
          go_quiet (fail)
          go_wp2
          go_roundw
          case rel => exact ⟨k + 1, by omega, by go_num, fun j hj => by
            rcases Nat.lt_or_ge j k with h | h
            · exact HA.out j h
            · obtain rfl : j = k := by omega
              rw [getD_lt hlt, getD_lt hlt2]
              exact HE.out, hb.trans ((belN _ _).mono hb.size)⟩
          case measure => simp only [intOf]; omega
        · have hE : (xs[k] != ys[k]) = true := by simpa using he
          go_wp2
          go_quiet (fail)
          go_wp2
          go_ret
          exact ⟨ret_bool (by simp [eqB]; intro e; subst e; exact he rfl), hb.trans ((belN _ _).mono hb.size)⟩
      · obtain rfl : k = xs.length := by omega
        go_wp2
        go_ret
        refine ⟨ret_bool ?_, hb⟩
        have : xs = ys := ints_ext HL.out HA.out
        simp [this, eqB]
  · have hne : ((xs.length : Int) != (ys.length : Int)) = true := by simp; omega
    have HL := hide (show ¬ xs = ys from fun e => hl (by rw [e]))
    clear hl
    go_enter Try.func49, Try.ntmps49
    go_wp2
    go_ret
    exact ⟨ret_bool (by simp [eqB, HL.out]), Below.refl _ _⟩
theorem equalInts_yes (a b : Option Addr) (ca cb : Nat) (xs : List Int) (w : World) (hx : Ints w a xs) (hy : Ints w b xs) (hn : xs.length ≤ 1048576) :
    Calls Try.prog 49 #[.slice a xs.length ca, .slice b xs.length cb] w fun e w' => e = .returned (.bool true) ∧ Below w.heap.size w w' :=
  (equalInts_any a b ca cb xs xs w hx hy hn hn).mono fun _ _ ⟨he, hb⟩ => ⟨he.trans (ret_bool (eqB_refl _)), hb⟩


/-- whether all of a list are in another one -/
def amongB (xs ys : List Int) : Bool := xs.all fun x => hasB ys x
theorem amongB_true {xs ys : List Int} (h : ∀ x ∈ xs, x ∈ ys) : amongB xs ys = true := List.all_eq_true.2 fun x hx => hasB_true (h x hx)

/-- Each is more than the one before. -/
def Ups (zs : List Int) : Prop := ∀ i, i < zs.length → 0 < i → zs.getD (i - 1) 0 < zs.getD i 0

end Go.Proofs.Ytbnnblfgpdfmpaa

/- EqSp: equalSpace of the laws. -/
namespace Go.Proofs.Ytbnnblfgpdfmpaa
open Go.RowKit Go.Joins

/-- whether two spaces are the same -/
def eqS (n m : Int) (xs ys : List Int) : Bool := decide (n = m) && eqB xs ys
theorem equalSpace_any (n m : Int) (a b : Option Addr) (ca cb : Nat) (xs ys : List Int) (w : World) (hx : Ints w a xs) (hy : Ints w b ys) (hn : xs.length ≤ 1048576) (hm : ys.length ≤ 1048576) :
    Calls Try.prog 21 #[.agg #[.int .i64 n, .slice a xs.length ca], .agg #[.int .i64 m, .slice b ys.length cb]] w fun e w' => e = .returned (.bool (eqS n m xs ys)) ∧ Below w.heap.size w w' := by
  by_cases h : n = m
  · subst h
    have hne : (n == n) = true := by simp
    have HE := hide (show eqB xs ys = eqS n n xs ys from by unfold eqS; simp)
    go_enter Try.func21, Try.ntmps21
    go_wp2_with fail
    refine (equalInts_any _ _ _ _ _ _ _ (hx.below (bel2 w _ _)) (hy.below (bel2 w _ _)) hn hm).mono ?_
    rintro e w1 ⟨rfl, hb⟩
    go_wp2
    go_ret
    exact ⟨ret_bool HE.out, bnext (bel2 w _ _) hb⟩
  · have hne : (n == m) = false := by simpa using h
    have HE := hide (show false = eqS n m xs ys from by unfold eqS; simp [h])
    clear h
    go_enter Try.func21, Try.ntmps21
    go_wp2_with fail
    go_ret
    exact ⟨ret_bool HE.out, bel2 w _ _⟩
theorem equalSpace_was (n m : Int) (a b : Option Addr) (ca cb : Nat) (xs ys : List Int) (w : World) (r : Bool) (hx : Ints w a xs) (hy : Ints w b ys) (hn : xs.length ≤ 1048576) (hm : ys.length ≤ 1048576) (hr : eqS n m xs ys = r) :
    Calls Try.prog 21 #[.agg #[.int .i64 n, .slice a xs.length ca], .agg #[.int .i64 m, .slice b ys.length cb]] w fun e w' => e = .returned (.bool r) ∧ Below w.heap.size w w' := by
  subst hr
  exact equalSpace_any n m a b ca cb xs ys w hx hy hn hm
theorem eqS_refl (n : Int) (xs : List Int) : eqS n n xs xs = true := by unfold eqS; rw [eqB_refl]; simp
end Go.Proofs.Ytbnnblfgpdfmpaa

/- MedI: impl.IsMedian. -/
namespace Go.Proofs.Ytbnnblfgpdfmpaa
open Go.RowKit Go.Joins

theorem implValidSpace_isIsMedian (n : Int) (a : Option Addr) (cap : Nat) (zs : List Int) (w : World) (r : Bool) (hi : Ints w a zs) (hn : zs.length ≤ 1048576) (hr : vsB n zs = r) :
    Calls Try.prog 26 #[.agg #[.int .i64 n, .slice a zs.length cap]] w fun e w' => e = .returned (.bool r) ∧ Below w.heap.size w w' :=
  (implValidSpace_any n a cap zs w hi hn).mono fun _ _ ⟨he, hb⟩ => ⟨he.trans (ret_bool hr), hb⟩

set_option maxHeartbeats 2000000 in
theorem implIsMedian_any (n : Int) (a : Option Addr) (cap : Nat) (zs : List Int) (w : World) (hi : Ints w a zs) (hn : zs.length ≤ 1048576) (hcap : zs.length ≤ cap) :
    Calls Try.prog 22 #[.agg #[.int .i64 n, .slice a zs.length cap]] w fun e w' => e = .returned (.bool (closedB med n zs)) ∧ Below w.heap.size w w' := by
  have S0 := SV.new w n a zs cap none [] 26 hi (Ints.nil _ _)
  clear hi
  by_cases hv : vsB n zs = false
  · have HN := hide (closedB_no (f := med) hv)
    have HV := hide hv
    clear hv
    obtain ⟨⟨_, c0, c1⟩, _⟩ := S0.pair
    go_enter Try.func22, Try.ntmps22
    go_wp2_with fail
    first
      | go_region_with ((go_at_call 26; refine (implValidSpace_isIsMedian _ _ _ _ _ false S0.drew.2.1 hn HV.out).mono ?_; rintro e w1 ⟨rfl, hb⟩; have S1 := S0.drew.below hb))
      | fail
    all_goals
      go_wp2
      go_ret
      exact ⟨ret_bool HN.out.symm, S1.2.2.2⟩
  · have hv : vsB n zs = true := by simpa using hv
    have HV := hide hv
    have hV := hide (valid_of hv)
    have HR := hide (valid_range hV.out)
    have hjl : (joinL med zs).length = (joined med (zs.map Int.toNat)).length := by unfold joinL; rw [List.length_map]
    have hE : (((joinL med zs).length : Int) == (zs.length : Int)) = closedB med n zs := by
      unfold closedB
      rw [hv, Bool.true_and, hjl, Bool.eq_iff_iff, beq_iff_eq, beq_iff_eq]
      omega
    clear hv hjl
    obtain ⟨⟨_, c0, c1⟩, _⟩ := S0.pair
    go_enter Try.func22, Try.ntmps22
    go_wp2_with fail
    go_region_held3 (fun w' => w'.cell? ⟨w.heap.size, 0, none⟩ = some (.int .i64 n) ∧ w'.cell? ⟨w.heap.size, 1, none⟩ = some (.slice a zs.length cap))
      (first
        | exact ⟨c0, c1⟩
        | exact ⟨S2.1.2.1, S2.1.2.2⟩
        | exact ⟨S1.1.2.1, S1.1.2.2⟩
        | go_keep)
      (first
        | (go_at_call 26; refine (implValidSpace_isIsMedian _ _ _ _ _ true S0.drew.2.1 hn HV.out).mono ?_; rintro e w1 ⟨rfl, hb⟩; have S1 := S0.drew.below hb)
        | (go_at_call 50; refine (joinedMed_any _ _ _ _ S1.2.1 hn hcap HR.out).mono ?_; rintro e w2 ⟨v, rfl, ov, hb2⟩; obtain ⟨av, cv, rfl, iv, _⟩ := ov.form; have S2 := S1.below hb2))
    all_goals
      go_wp2
      go_ret
      exact ⟨rfl, S2.2.2.2⟩
end Go.Proofs.Ytbnnblfgpdfmpaa

/- OpenI: impl.IsOpen answers what IsOpen asks. -/
namespace Go.Proofs.Ytbnnblfgpdfmpaa
open Go.RowKit Go.Joins

end Go.Proofs.Ytbnnblfgpdfmpaa

/- SwI: SpaceWithout in the program. -/
namespace Go.Proofs.Ytbnnblfgpdfmpaa
open Go.RowKit Go.Joins

end Go.Proofs.Ytbnnblfgpdfmpaa

/- CrL: Contracts that the laws on critical parts share. -/
namespace Go.Proofs.Ytbnnblfgpdfmpaa
open Go.RowKit Go.Joins

theorem implCrit_was (n : Int) (a : Option Addr) (cap : Nat) (zs : List Int) (ps : List (Int × Int)) (w : World) (hi : Ints w a zs) (hn : zs.length ≤ 1048576) (h : crR n zs = ps) :
    Calls Try.prog 24 #[.agg #[.int .i64 n, .slice a zs.length cap]] w (GivesP ps w) := by
  subst h
  exact implCriticalParts_any n a cap zs w hi hn
theorem implMed_was (n : Int) (a : Option Addr) (cap : Nat) (zs : List Int) (w : World) (r : Bool) (hi : Ints w a zs) (hn : zs.length ≤ 1048576) (hcap : zs.length ≤ cap) (hr : closedB med n zs = r) :
    Calls Try.prog 22 #[.agg #[.int .i64 n, .slice a zs.length cap]] w fun e w' => e = .returned (.bool r) ∧ Below w.heap.size w w' := by
  subst hr
  exact implIsMedian_any n a cap zs w hi hn hcap
theorem crit_of {N : Nat} {zs : List Int} {L : List (Nat × Nat)} (h : crR (N : Int) zs = ofP L) (hv : vsB (N : Int) zs = true) : L = critL N zs := by
  rw [crR_yes hv, Int.toNat_natCast] at h
  have inj : ∀ (x y : List (Nat × Nat)), ofP x = ofP y → x = y := fun x => by
    induction x with
    | nil => intro y e; cases y with
      | nil => rfl
      | cons b y => cases e
    | cons a x ih => intro y e; cases y with
      | nil => cases e
      | cons b y =>
        have e' : ((a.1 : Int), (a.2 : Int)) :: ofP x = ((b.1 : Int), (b.2 : Int)) :: ofP y := e
        rw [List.cons.injEq, Prod.mk.injEq] at e'
        rw [ih y e'.2]
        obtain ⟨⟨e1, e2⟩, _⟩ := e'
        rw [show a = b from Prod.ext (by omega) (by omega)]
  exact (inj _ _ h).symm
end Go.Proofs.Ytbnnblfgpdfmpaa
