/- Texts of this seat one behind the other: Read, DrawS, Draw, DrawN, DrawM, DrawL, DrawC. Conditions: none. -/
import Derived.Test.YtgebplpbnaeckaaGreatDoorMg03
import Derived.Test.YtgebplpbnaeckaaGreatDoorMg01
import Derived.Test.YtgebplpbnaeckaaGreatDoorMg04
import Derived.Test.YtgebplpbnaeckaaGreatDoorMg02
import Derived.Deep.QuietTactic
import Derived.BigQuiet
import Derived.Handy
import Derived.Outline
import Derived.BigRegion
import Derived.Deep.RegionHeld3
import Derived.OwnWalk
import Derived.Deep.RegionLaw
import Derived.Deep.AppendLies
import Derived.Deep.RegionWith
import Derived.Deep.DeepCutAuto

/- Read: The drawer of arguments: a reader over bytes; pick and one. -/
namespace Go.Proofs.YtgebplpbnaeckaaGreatDoor
open Go.ChangeShapes Go.WideShapes Go.ChangeAt Go.RowKit Go.Joins Go.Deep

/-- A slice value whose address is a reads as the bytes zs. -/
def Byts (w : World) (a : Option Addr) (zs : List Nat) : Prop :=
  (0 < zs.length → ∃ b off, a = some ⟨b, off, none⟩ ∧ b < w.heap.size ∧ ∀ k, k < zs.length → w.cell? ⟨b, off + k, none⟩ = some (.int .u8 (zs.getD k 0 : Nat))) ∧ ∀ k, zs.getD k 0 ≤ 255
theorem Byts.below {w w' : World} {a : Option Addr} {zs : List Nat} (h : Byts w a zs) (hb : Below w.heap.size w w') : Byts w' a zs := ⟨fun hz => by
  obtain ⟨b, off, e, hlt, hc⟩ := h.1 hz
  exact ⟨b, off, e, Nat.lt_of_lt_of_le hlt hb.size, fun k hk => (hb.cell (p := ⟨b, off + k, none⟩) hlt).trans (hc k hk)⟩, h.2⟩
theorem Byts.take {w : World} {a : Option Addr} {zs : List Nat} (h : Byts w a zs) (n : Nat) : Byts w a (zs.take n) := by
  have hg : ∀ k, k < (zs.take n).length → (zs.take n).getD k 0 = zs.getD k 0 := fun k hk => by
    rw [List.getD_eq_getElem?_getD, List.getD_eq_getElem?_getD, List.getElem?_take_of_lt (by rw [List.length_take] at hk; omega)]
  refine ⟨fun hz => ?_, fun k => ?_⟩
  · obtain ⟨b, off, e, hlt, hc⟩ := h.1 (by rw [List.length_take] at hz; omega)
    exact ⟨b, off, e, hlt, fun k hk => by rw [hg k hk]; exact hc k (by rw [List.length_take] at hk; omega)⟩
  · rcases Nat.lt_or_ge k (zs.take n).length with hk | hk
    · rw [hg k hk]; exact h.2 k
    · rw [List.getD_eq_getElem?_getD, List.getElem?_eq_none hk]; simp

section
variable {H : Type} {enc : TypeId × Value → H} {P : Program} {w : World} {base : Nat} {spare : Nat → Bool} {held : Bool}
theorem open_bytes {r : Reach} {b0 : Nat} {t e : TypeId} {v : Value} {d : DataW H} {p : List MemPlace} (ht : P.underlying t = some (.slice e)) (he : P.underlying e = some (.int .u8)) (hc : P.cellsOf e = 1)
    (hv : Value.okWide P w r b0 t v) (h : DataW.Trod enc P w base spare held t v d p) : ∃ a zs cap, v = .slice a zs.length cap ∧ Byts w a zs ∧ zs.length ≤ maxLen ∧ zs.length ≤ cap := by
  obtain ⟨a0, len0, cap0, rfl⟩ := okWide_slice ht hv
  obtain ⟨fuel, hf⟩ := h
  rcases open_ints ht he hc hf with ⟨hcs, _⟩ | ⟨x, l, c, zs, hcs, _, hl, hm, hz, _, hcell, hwf⟩
  · simp [Value.cells] at hcs
    obtain ⟨rfl, rfl, rfl⟩ := hcs
    exact ⟨none, [], 0, rfl, ⟨fun h => by simp at h, fun k => by simp⟩, by simp, by simp⟩
  · simp [Value.cells] at hcs
    obtain ⟨rfl, rfl, rfl⟩ := hcs
    have hlz : len0 ≤ zs.length := by rw [hz]; split <;> omega
    have hlen : ((zs.take len0).map Int.toNat).length = len0 := by simp; omega
    have hb : ∀ k, k < len0 → ∃ z : Nat, zs.getD k 0 = (z : Int) ∧ ((zs.take len0).map Int.toNat).getD k 0 = z ∧ z ≤ 255 := fun k hk => by
      have hk' : k < zs.length := by omega
      have hmem : zs[k] ∈ zs := List.getElem_mem hk'
      have hbd := bounds_u8 (hwf _ hmem)
      refine ⟨zs[k].toNat, ?_, ?_, by omega⟩
      · rw [List.getD_eq_getElem?_getD, List.getElem?_eq_getElem hk']
        simp only [Option.getD_some]
        omega
      · simp [List.getD_eq_getElem?_getD, hk, hk']
    refine ⟨some x, (zs.take len0).map Int.toNat, cap0, by rw [hlen], ⟨fun h0 => ?_, fun k => ?_⟩, by omega, by omega⟩
    · rw [hlen] at h0
      have hc0 := hcell 0 (by omega)
      obtain ⟨b, off, spot⟩ := x
      have hspot : spot = none := by simpa [Addr.add] using World.cell?_spot hc0
      subst hspot
      have hb' : b < w.heap.size := World.block_lt_of_cell? w ⟨b, off, none⟩ (by simpa [Addr.add] using hc0)
      refine ⟨b, off, rfl, hb', fun k hk => ?_⟩
      rw [hlen] at hk
      have hck := hcell k (by omega)
      have e1 : (⟨b, off, none⟩ : Addr).add k = ⟨b, off + k, none⟩ := by
        unfold Addr.add
        by_cases h : k = 0 <;> simp [h]
      rw [e1] at hck
      obtain ⟨z, h1, h2, _⟩ := hb k hk
      rw [hck, h1, h2]
    · rcases Nat.lt_or_ge k len0 with hk | hk
      · obtain ⟨z, _, h2, h3⟩ := hb k hk
        rw [h2]; exact h3
      · rw [List.getD_eq_getElem?_getD, List.getElem?_eq_none (by rw [hlen]; exact hk)]; simp
end

/-- a reader in block R that has been asked at most n times -/
def RD (w : World) (R n : Nat) : Prop := ∃ (a : Option Addr) (zs : List Nat) (cap p : Nat),
  w.heap[R]? = some (.cells #[.slice a zs.length cap, .int .i64 p] 55 (0, 0)) ∧ p ≤ n ∧ zs.length ≤ 2000 ∧ Byts w a zs ∧ ∀ b o s, a = some ⟨b, o, s⟩ → 0 < zs.length → b < R
theorem RD.grown {w w' : World} {R n : Nat} {row : Option Nat} (h : RD w R n) (hg : w.grownBy w' row) (hr : ∀ g, row = some g → R < g) : RD w' R n := by
  obtain ⟨a, zs, cap, p, hblk, hp, hl, hby, hR⟩ := h
  have hlt := lt_of_block hblk
  have hne : some R ≠ row := by
    rcases row with _ | g
    · simp
    · have := hr g rfl
      simp only [ne_eq, Option.some.injEq]
      omega
  refine ⟨a, zs, cap, p, (hg.block R hlt hne).trans hblk, hp, hl, ⟨fun hz => ?_, hby.2⟩, hR⟩
  obtain ⟨b, off, e, hb, hc⟩ := hby.1 hz
  have hbR := hR b off none e hz
  refine ⟨b, off, e, Nat.lt_of_lt_of_le hb hg.size, fun k hk => hg.cell (hc k hk) ?_⟩
  rcases row with _ | g
  · simp
  · have := hr g rfl
    simp; omega
theorem RD.below {w w' : World} {R n : Nat} (h : RD w R n) (hb : Below w.heap.size w w') : RD w' R n := by
  obtain ⟨a, zs, cap, p, hblk, hp, hl, hby, hR⟩ := h
  exact ⟨a, zs, cap, p, (hb.block R (lt_of_block hblk)).trans hblk, hp, hl, hby.below hb, hR⟩
theorem RD.lt {w : World} {R n : Nat} (h : RD w R n) : R < w.heap.size := by
  obtain ⟨a, zs, cap, p, hblk, _⟩ := h
  exact lt_of_block hblk
theorem RD.more {w : World} {R n m : Nat} (h : RD w R n) (hm : n ≤ m) : RD w R m := by
  obtain ⟨a, zs, cap, p, hblk, hp, r⟩ := h
  exact ⟨a, zs, cap, p, hblk, by omega, r⟩
theorem gset (w : World) (R i : Nat) (v : Value) : w.grownBy (w.setCell ⟨R, i, none⟩ v) (some R) :=
  ⟨rfl, rfl, rfl, by simp, fun k _ hne => Below.heap_setCell _ _ _ _ (fun e => hne (by rw [e]))⟩
theorem gdrewN {w w' : World} {row : Option Nat} (h : w.grownBy w' row) (n : Nat) : w.grownBy (w'.drewN n) row := ⟨h.os, h.tape, h.output, h.size, h.block⟩
/-- what a number's digits with those of another make is no less than 0 -/
theorem xor_nonneg (a b : Nat) (ha : a < 9223372036854775808) (hb : b < 9223372036854775808) : 0 ≤ bits .xor .i64 (a : Int) (b : Int) := by
  have hx : a ^^^ b < 2 ^ 63 := Nat.xor_lt_two_pow (by omega) (by omega)
  show 0 ≤ IntKind.i64.wrap ((BitVec.ofInt 64 (a : Int) ^^^ BitVec.ofInt 64 (b : Int)).toNat : Int)
  rw [BitVec.toNat_xor, ofInt_small a ha, ofInt_small b hb, IntKind.wrap_i64]
  omega
theorem tmod_nat (a b : Nat) : Int.tmod (a : Int) (b : Int) = ((a % b : Nat) : Int) := by
  rw [Int.tmod_eq_emod_of_nonneg (by omega)]; rfl
theorem tdiv_nat (a b : Nat) : Int.tdiv (a : Int) (b : Int) = ((a / b : Nat) : Int) := by
  rw [Int.tdiv_eq_ediv_of_nonneg (by omega)]; rfl

/-- What pick leaves. -/
def PickPost (R n : Nat) (k : Int) (w : World) (e : Ending) (w' : World) : Prop :=
  ∃ r : Int, e = .returned (.int .i64 r) ∧ 0 ≤ r ∧ (1 ≤ k → r < k) ∧ (k < 1 → r = 0) ∧ w.grownBy w' (some R) ∧ RD w' R (n + 1)

set_option maxHeartbeats 4000000 in
set_option maxRecDepth 100000 in
theorem pick_any (R n : Nat) (k : Int) (w : World) (hr : RD w R n) (hn : n < 1073741824) (hk : -1048576 ≤ k ∧ k ≤ 1048576) :
    Calls Tryz.prog 17 #[.pointer (some ⟨R, 0, none⟩), .int .i64 k] w (PickPost R n k w) := by
  obtain ⟨a, zs, cap, p, hblk, hp, hl, hby, hbR⟩ := hr
  have g0 := cell_of_block hblk 0
  have g1 := cell_of_block hblk 1
  have f1 := unfrozen_of_block hblk 1
  have hblk2 := block_setCell (i := 1) hblk (.int .i64 ((p : Int) + 1))
  have HG := hide (gset w R 1 (.int .i64 ((p : Int) + 1)))
  have hrd : RD (w.setCell ⟨R, 1, none⟩ (.int .i64 ((p : Int) + 1))) R (n + 1) := by
    refine ⟨a, zs, cap, p + 1, hblk2, by omega, hl, ⟨fun hz => ?_, hby.2⟩, hbR⟩
    obtain ⟨b, off, e, hb, hc⟩ := hby.1 hz
    have hb' := hbR b off none e hz
    exact ⟨b, off, e, by simpa using hb, fun j hj => (HG.out).cell (hc j hj) (by simp; omega)⟩
  have HRD := hide hrd
  have e0 : (w.setCell ⟨R, 1, none⟩ (.int .i64 ((p : Int) + 1))).cell? ⟨R, 0, none⟩ = some (.slice a zs.length cap) := cell_of_block hblk2 0
  have e1 : (w.setCell ⟨R, 1, none⟩ (.int .i64 ((p : Int) + 1))).cell? ⟨R, 1, none⟩ = some (.int .i64 ((p : Int) + 1)) := cell_of_block hblk2 1
  obtain ⟨W, hW⟩ : ∃ W : World, W = w.setCell ⟨R, 1, none⟩ (.int .i64 ((p : Int) + 1)) := ⟨_, rfl⟩
  by_cases hk1 : k < 1
  · clear hW
    go_enter Tryz.func17, Tryz.ntmps17
    go_wp2
    go_ret
    exact ⟨0, rfl, by omega, fun h => by omega, fun _ => rfl, HG.out, HRD.out⟩
  · by_cases hz : zs.length = 0
    · have hZ : ((zs.length : Int) == 0) = true := by simpa using hz
      clear hW
      go_enter Tryz.func17, Tryz.ntmps17
      go_wp2
      go_ret
      exact ⟨0, rfl, by omega, fun h => by omega, fun _ => rfl, HG.out, HRD.out⟩
    · have hZ : ((zs.length : Int) == 0) = false := by simpa using hz
      have hpos : 0 < zs.length := by omega
      obtain ⟨b, off, rfl, hbl, hc⟩ := hby.1 hpos
      have hbR' := hbR b off none rfl hpos
      have hB := hby.2
      have hcW : ∀ j, j < zs.length → (w.setCell ⟨R, 1, none⟩ (.int .i64 ((p : Int) + 1))).cell? ⟨b, off + j, none⟩ = some (.int .u8 (zs.getD j 0 : Nat)) := fun j hj => (HG.out).cell (hc j hj) (by simp; omega)
      by_cases hlt : p < zs.length
      · obtain ⟨z, hzz⟩ : ∃ z, z = zs.getD p 0 := ⟨_, rfl⟩
        have hz255 : z ≤ 255 := by rw [hzz]; exact hB p
        have hcp := hcW p hlt
        rw [← hzz] at hcp
        obtain ⟨kk, rfl⟩ := Int.eq_ofNat_of_zero_le (show 0 ≤ k from by omega)
        have hmod : z % kk < kk := Nat.mod_lt _ (by omega)
        have HM := hide hmod
        have HT := hide (tmod_nat z kk)
        clear hW hcW hB hc hz hzz hmod hby hbR
        go_enter Tryz.func17, Tryz.ntmps17
        go_wp2
        go_ret
        refine ⟨((z % kk : Nat) : Int), ret_int ?_, by omega, fun _ => by have := HM.out; omega, fun h => by omega, HG.out, HRD.out⟩
        first | rfl | exact HT.out | (push_cast; rfl) | simp
      · obtain ⟨L, hL⟩ : ∃ L, L = zs.length := ⟨_, rfl⟩
        rw [← hL] at hlt hpos hZ hl e0
        have hlm : p % L < L := Nat.mod_lt _ hpos
        have hqm : (p * 7 + 3) % L < L := Nat.mod_lt _ hpos
        obtain ⟨i1, hi1⟩ : ∃ i, i = p % L := ⟨_, rfl⟩
        obtain ⟨i2, hi2⟩ : ∃ i, i = (p * 7 + 3) % L := ⟨_, rfl⟩
        rw [← hi1] at hlm
        rw [← hi2] at hqm
        obtain ⟨z1, hz1⟩ : ∃ z, z = zs.getD i1 0 := ⟨_, rfl⟩
        obtain ⟨z2, hz2⟩ : ∃ z, z = zs.getD i2 0 := ⟨_, rfl⟩
        have hz1b : z1 ≤ 255 := by rw [hz1]; exact hB i1
        have hz2b : z2 ≤ 255 := by rw [hz2]; exact hB i2
        have hc1 := hcW i1 (by omega)
        have hc2 := hcW i2 (by omega)
        rw [← hz1] at hc1
        rw [← hz2] at hc2
        obtain ⟨kk, rfl⟩ := Int.eq_ofNat_of_zero_le (show 0 ≤ k from by omega)
        have m1 : Int.tmod (p : Int) (L : Int) = (i1 : Int) := by rw [tmod_nat, hi1]
        have m2 : Int.tmod ((p : Int) * 7 + 3) (L : Int) = (i2 : Int) := by
          have h := tmod_nat (p * 7 + 3) L
          rw [hi2, ← h]
          push_cast
          rfl
        obtain ⟨d, hd⟩ : ∃ d, d = p / L := ⟨_, rfl⟩
        have hdp : d ≤ p := by rw [hd]; exact Nat.div_le_self _ _
        have q1 : Int.tdiv (p : Int) (L : Int) = (d : Int) := by rw [tdiv_nat, hd]
        obtain ⟨x, hx⟩ : ∃ x : Nat, x = z1 * 131 + z2 * 1117 + p * 29 + d * 53 := ⟨_, rfl⟩
        have hxb : x < 1000000000000 := by omega
        have w0 : IntKind.i64.wrap ((p : Int) + 1 - 1) = (p : Int) := by rw [IntWalk.i64_in _ (by omega)]; omega
        have w1 : IntKind.i64.wrap ((p : Int) * 7) = (p : Int) * 7 := IntWalk.i64_in _ (by omega)
        have w2 : IntKind.i64.wrap ((p : Int) * 7 + 3) = (p : Int) * 7 + 3 := IntWalk.i64_in _ (by omega)
        have w3 : IntKind.i64.wrap ((z1 : Int) * 131) = (z1 : Int) * 131 := IntWalk.i64_in _ (by omega)
        have w4 : IntKind.i64.wrap ((z2 : Int) * 1117) = (z2 : Int) * 1117 := IntWalk.i64_in _ (by omega)
        have w5 : IntKind.i64.wrap ((z1 : Int) * 131 + (z2 : Int) * 1117) = (z1 : Int) * 131 + (z2 : Int) * 1117 := IntWalk.i64_in _ (by omega)
        have w6 : IntKind.i64.wrap ((p : Int) * 29) = (p : Int) * 29 := IntWalk.i64_in _ (by omega)
        have w7 : IntKind.i64.wrap ((z1 : Int) * 131 + (z2 : Int) * 1117 + (p : Int) * 29) = (z1 : Int) * 131 + (z2 : Int) * 1117 + (p : Int) * 29 := IntWalk.i64_in _ (by omega)
        have w8 : IntKind.i64.wrap ((d : Int) * 53) = (d : Int) * 53 := IntWalk.i64_in _ (by omega)
        have w9 : IntKind.i64.wrap ((z1 : Int) * 131 + (z2 : Int) * 1117 + (p : Int) * 29 + (d : Int) * 53) = (x : Int) := by rw [IntWalk.i64_in _ (by omega), hx]; push_cast; rfl
        have v1 : IntKind.i64.wrap (z1 : Int) = (z1 : Int) := IntWalk.i64_in _ (by omega)
        have v2 : IntKind.i64.wrap (z2 : Int) = (z2 : Int) := IntWalk.i64_in _ (by omega)
        have hxor := xor_nonneg x (x / 64) (by omega) (by omega)
        obtain ⟨y, hy⟩ := Int.eq_ofNat_of_zero_le hxor
        have hy' : bits .xor .i64 (x : Int) ((x : Int) / 64) = (y : Int) := by rw [← hy]; push_cast; rfl
        have hq64 : Int.tdiv (x : Int) 64 = (x : Int) / 64 := Int.tdiv_eq_ediv_of_nonneg (by omega)
        have hmod : y % kk < kk := Nat.mod_lt _ (by omega)
        have HM := hide hmod
        have HT := hide (tmod_nat y kk)
        have HE : Hid (wrap64 (d : Int) = (d : Int) ∧ wrap64 ((d : Int) * 53) = (d : Int) * 53 ∧ wrap64 ((z1 : Int) * 131 + (z2 : Int) * 1117 + (p : Int) * 29 + (d : Int) * 53) = (x : Int) ∧ wrap64 ((x : Int) / 64) = (x : Int) / 64 ∧ bits .xor .i64 (x : Int) ((x : Int) / 64) = (y : Int) ∧ Int.tdiv (x : Int) 64 = (x : Int) / 64) :=
          ⟨IntWalk.wrap64_in _ (by omega), IntWalk.wrap64_in _ (by omega), by rw [IntWalk.wrap64_in _ (by omega), hx]; push_cast; rfl, IntWalk.wrap64_in _ (by omega), hy', hq64⟩
        have l1 : (i1 : Int) < (L : Int) := by omega
        have l2 : (i2 : Int) < (L : Int) := by omega
        clear hW hcW hB hc hmod hby hbR hxor hy hx hd hi1 hi2 hz1 hz2 hL hdp
        go_enter Tryz.func17, Tryz.ntmps17
        go_wp2
        go_quiet (fail)
        go_wp2
        go_ret
        refine ⟨((y % kk : Nat) : Int), ret_int ?_, by omega, fun _ => by have := HM.out; omega, fun h => by omega, gdrewN HG.out _, HRD.out.below (belN _ _)⟩
        obtain ⟨e1, e2, e3, e4, e5, e6⟩ := HE.out
        rw [e1, e2, e3, e6, e4, e5]
        exact HT.out

set_option maxHeartbeats 1000000 in
theorem newReader_any (a : Option Addr) (cap : Nat) (zs : List Nat) (w : World) (hi : Byts w a zs) (hl : zs.length ≤ 1048576) (hc : zs.length ≤ cap) :
    Calls Tryz.prog 12 #[.slice a zs.length cap] w fun e w' => ∃ R, e = .returned (.pointer (some ⟨R, 0, none⟩)) ∧ w.heap.size ≤ R ∧ RD w' R 0 ∧ Below w.heap.size w w' := by
  by_cases h : 2000 < zs.length
  · obtain ⟨b, off, rfl, hb, _⟩ := hi.1 (by omega)
    have ht := hi.take 2000
    have htl : (zs.take 2000).length = 2000 := by rw [List.length_take]; omega
    have HT := hide ht
    have HL := hide htl
    clear ht htl hi
    go_enter Tryz.func12, Tryz.ntmps12
    go_wp2
    go_ret
    refine ⟨w.heap.size, rfl, Nat.le_refl _, ⟨some ⟨b, off, none⟩, zs.take 2000, _, 0, by rw [HL.out]; exact heap_alloc_new w _, Nat.le_refl _, by rw [HL.out]; exact Nat.le_refl _, HT.out.below (bel1 w _), fun b' o s e _ => by cases e; exact hb⟩, bel1 w _⟩
  · have HI := hide hi
    go_enter Tryz.func12, Tryz.ntmps12
    go_wp2
    go_ret
    refine ⟨w.heap.size, rfl, Nat.le_refl _, ⟨a, zs, cap, 0, heap_alloc_new w _, Nat.le_refl _, by omega, HI.out.below (bel1 w _), fun b' o s e hz => ?_⟩, bel1 w _⟩
    obtain ⟨b, off, e', hb, _⟩ := HI.out.1 hz
    rw [e'] at e
    cases e
    exact hb

/-- What one leaves. -/
def OnePost (R n : Nat) (zs : List Int) (w : World) (e : Ending) (w' : World) : Prop :=
  ∃ x, x ∈ zs ∧ e = .returned (.int .i64 x) ∧ w.grownBy w' (some R) ∧ RD w' R (n + 1)
set_option maxHeartbeats 1000000 in
theorem one_any (R n cap : Nat) (l : Option Addr) (zs : List Int) (w : World) (hr : RD w R n) (hn : n < 1073741824) (hi : Ints w l zs) (h0 : 0 < zs.length) (h1 : zs.length ≤ 1000) (hne : ∀ b o s, l = some ⟨b, o, s⟩ → b ≠ R) :
    Calls Tryz.prog 13 #[.pointer (some ⟨R, 0, none⟩), .slice l zs.length cap] w (OnePost R n zs w) := by
  have HI := hide hi
  have HN := hide hne
  clear hi hne
  go_enter Tryz.func13, Tryz.ntmps13
  go_wp2_with fail
  refine (pick_any R n _ _ hr hn ⟨by omega, by omega⟩).mono ?_
  rintro e w1 ⟨r, rfl, hr0, hrl, _, hg, hrd⟩
  obtain ⟨i, rfl⟩ := Int.eq_ofNat_of_zero_le hr0
  have hil : i < zs.length := by have := hrl (by omega); omega
  obtain ⟨b, off, rfl, hb, hc⟩ := HI.out h0
  have hck := hg.cell (hc i hil) (by simp; exact HN.out b off none rfl)
  rw [getD_lt hil] at hck
  have HG := hide hg
  have HRD := hide hrd
  clear hc hrl hg hrd hr
  go_wp2
  go_ret
  exact ⟨_, List.getElem_mem hil, rfl, HG.out, HRD.out⟩
end Go.Proofs.YtgebplpbnaeckaaGreatDoor

/- DrawS: A space that is drawn: what is under way, what it becomes. Nothing of the program. -/
namespace Go.Proofs.YtgebplpbnaeckaaGreatDoor
open Go.RowKit Go.Joins

theorem gbelow {w a b : World} {R : Nat} (h : w.grownBy a (some R)) (hb : Below w.heap.size a b) : w.grownBy b (some R) :=
  ⟨hb.os.trans h.os, hb.tape.trans h.tape, hb.output.trans h.output, Nat.le_trans h.size hb.size, fun k hk hne => (hb.block k hk).trans (h.block k hk hne)⟩
theorem gpick {w a b : World} {R : Nat} (h : w.grownBy a (some R)) (hb : a.grownBy b (some R)) : w.grownBy b (some R) :=
  ⟨hb.os.trans h.os, hb.tape.trans h.tape, hb.output.trans h.output, Nat.le_trans h.size hb.size, fun k hk hne => (hb.block k (Nat.lt_of_lt_of_le hk h.size) hne).trans (h.block k hk hne)⟩
theorem grefl0 (w : World) (R : Nat) : w.grownBy w (some R) := ⟨rfl, rfl, rfl, Nat.le_refl _, fun _ _ _ => rfl⟩
theorem RD.set {w : World} {R n g i : Nat} {v : Value} (h : RD w R n) (hg : R < g) : RD (w.setCell ⟨g, i, none⟩ v) R n := h.grown (gset w g i v) fun k hk => by cases hk; exact hg

/-- a space under way: the answer's block, the space's block, the reader -/
def SI (R : Nat) (w : World) (m : Int) (n : Nat) (vv : Value) (zs : List Int) (wq : World) : Prop :=
  wq.heap[w.heap.size + 1]? = some (.cells #[.int .i64 m, vv] 37 (0, 0)) ∧ Owns wq (w.heap.size + 2) vv zs ∧ wq.heap[w.heap.size]? = some (.cells #[.int .i64 0, .slice none 0 0] 37 (0, 0)) ∧ w.grownBy wq (some R) ∧ RD wq R n ∧ w.heap.size + 2 ≤ wq.heap.size ∧ R < w.heap.size
theorem SI.rd {R : Nat} {w : World} {m : Int} {n : Nat} {vv : Value} {zs : List Int} {wq : World} (h : SI R w m n vv zs wq) : RD wq R n := h.2.2.2.2.1
theorem SI.new {R : Nat} {w : World} {n : Nat} (m : Int) (h : RD w R n) :
    SI R w m n (.slice none 0 0) [] ((w.alloc (.cells #[.int .i64 0, .slice none 0 0] 37)).alloc (.cells #[.int .i64 m, .slice none 0 0] 37)) := by
  have h0 := heap_alloc_new w (.cells #[.int .i64 0, .slice none 0 0] 37)
  have h1 := heap_alloc_new (w.alloc (.cells #[.int .i64 0, .slice none 0 0] 37)) (.cells #[.int .i64 m, .slice none 0 0] 37)
  simp only [World.size_alloc] at h1
  have hb := bel2 w (.cells #[.int .i64 0, .slice none 0 0] 37) (.cells #[.int .i64 m, .slice none 0 0] 37)
  exact ⟨h1, World.ownsRow_nil _ _ _ _, ((bel1 _ _).block w.heap.size (by simp)).trans h0, gbelow (grefl0 w R) hb, h.below hb, by simp, h.lt⟩
theorem SI.below {R : Nat} {w : World} {m : Int} {n : Nat} {vv : Value} {zs : List Int} {wq w' : World} (h : SI R w m n vv zs wq) (hb : Below wq.heap.size wq w') : SI R w m n vv zs w' := by
  obtain ⟨h1, h2, h3, h4, h5, h6, h7⟩ := h
  exact ⟨(hb.block _ (by omega)).trans h1, h2.below hb, (hb.block _ (by omega)).trans h3, gbelow h4 (hb.mono (by omega)), h5.below hb, Nat.le_trans h6 hb.size, h7⟩
theorem SI.pick {R : Nat} {w : World} {m : Int} {n k : Nat} {vv : Value} {zs : List Int} {wq w' : World} (h : SI R w m n vv zs wq) (hg : wq.grownBy w' (some R)) (hr : RD w' R k) : SI R w m k vv zs w' := by
  obtain ⟨h1, h2, h3, h4, _, h6, h7⟩ := h
  exact ⟨(hg.block _ (by omega) (by simp; omega)).trans h1, h2.other hg (fun g e => by cases e; omega), (hg.block _ (by omega) (by simp; omega)).trans h3, gpick h4 hg, hr, Nat.le_trans h6 hg.size, h7⟩
theorem SI.push {R : Nat} {w : World} {m z : Int} {n : Nat} {vv v' : Value} {zs : List Int} {wq w5 : World} {o : Obj} (h : SI R w m n vv zs wq) (hg : (wq.alloc o).grownBy w5 vv.ownBlock)
    (ho : w5.ownsRow (w.heap.size + 2) 3 1 v' (zs.length + 1) (zs.map (Value.int .i64) ++ [.int .i64 z])) :
    SI R w m n v' (zs ++ [z]) (w5.setCell ⟨w.heap.size + 1, 1, none⟩ v') ∧ w5.heap[w.heap.size + 1]? = some (.cells #[.int .i64 m, vv] 37 (0, 0)) := by
  have hs := h.below (bel1 wq o)
  obtain ⟨h1, h2, h3, h4, h5, h6, h7⟩ := hs
  have hne : ∀ k, k < w.heap.size + 2 → some k ≠ vv.ownBlock := fun k hk e => by
    have := own_ge h2 k e.symm
    omega
  have b1 := (hg.block _ (by omega) (hne _ (by omega))).trans h1
  refine ⟨⟨block_setCell (i := 1) b1 _, (Owns.push ho).setBelow (p := ⟨w.heap.size + 1, 1, none⟩) (by show w.heap.size + 1 < w.heap.size + 2; omega) _, ?_, ?_, ?_, ?_, h7⟩, b1⟩
  · exact (Below.heap_setCell _ _ _ _ (by show w.heap.size ≠ w.heap.size + 1; omega)).trans ((hg.block _ (by omega) (hne _ (by omega))).trans h3)
  · exact gbelow h4 (((Below.refl _ _).grown hg (by omega) (fun k hk => by have := own_ge h2 k hk; omega)).setCell (p := ⟨w.heap.size + 1, 1, none⟩) (by show w.heap.size ≤ w.heap.size + 1; omega) _)
  · exact (h5.grown hg (fun g e => by have := own_ge h2 g e; omega)).set (by omega)
  · have := hg.size
    simp; omega

/-- What a draw of a space leaves. -/
def SpacePost (R n : Nat) (w : World) (e : Ending) (w' : World) : Prop :=
  ∃ (m : Int) (v : Value) (zs : List Int), e = .returned (.agg #[.int .i64 m, v]) ∧ Owns w' w.heap.size v zs ∧ (zs.length ≤ 64 ∧ m ≤ 5) ∧ w.grownBy w' (some R) ∧ RD w' R n
theorem SI.done {R : Nat} {w : World} {m : Int} {n k : Nat} {vv : Value} {zs : List Int} {wq : World} (h : SI R w m n vv zs wq) (hl : zs.length ≤ 64 ∧ m ≤ 5) (hk : n ≤ k) (x y : Value) :
    SpacePost R k w (.returned (.agg #[.int .i64 m, vv])) ((wq.setCell ⟨w.heap.size, 0, none⟩ x).setCell ⟨w.heap.size, 1, none⟩ y) := by
  obtain ⟨_, h2, _, h4, h5, _, h7⟩ := h
  refine ⟨m, vv, zs, rfl, (h2.set2 (by omega) _ _).le (by omega), hl, gbelow (gbelow h4 ((Below.refl _ _).setCell (p := ⟨w.heap.size, 0, none⟩) (Nat.le_refl _) _)) ((Below.refl _ _).setCell (p := ⟨w.heap.size, 1, none⟩) (Nat.le_refl _) _), ((h5.set h7).set h7).more hk⟩

/-- how many are to come -/
def lackOf (n : Nat) : Value → Nat
  | .slice _ k _ => n - k
  | _ => 0
theorem swL_len (n : Int) (ps : List (Int × Int)) : (swL n ps).length ≤ 16 := by
  unfold swL
  split
  · rename_i h
    have h1 := swK_len ps (2 ^ n.toNat)
    have h2 := pw_le n h.1.1.2
    have h3 : pw n = ((2 ^ n.toNat : Nat) : Int) := rfl
    omega
  · simp
theorem swN_le {n : Int} (ps : List (Int × Int)) (h : n ≤ 4) : swN n ps ≤ 5 := by
  unfold swN
  split <;> omega
theorem SI.more {R : Nat} {w : World} {m : Int} {n k : Nat} {vv : Value} {zs : List Int} {wq : World} (h : SI R w m n vv zs wq) (hk : n ≤ k) : SI R w m k vv zs wq :=
  ⟨h.1, h.2.1, h.2.2.1, h.2.2.2.1, h.2.2.2.2.1.more hk, h.2.2.2.2.2⟩
theorem SI.drew {R : Nat} {w : World} {m : Int} {n : Nat} {vv : Value} {zs : List Int} {wq : World} (h : SI R w m n vv zs wq) : SI R w m n vv zs wq.drew := h.below (bdrew' (Below.refl _ _))
theorem SI.out {R : Nat} {w : World} {m m' : Int} {n k : Nat} {vv v : Value} {zs L : List Int} {wq w6 : World} {o : Obj} (h : SI R w m n vv zs wq) (hB : Below wq.heap.size wq w6) (hown : Owns w6 wq.heap.size v L) (hl : L.length ≤ 64 ∧ m' ≤ 5) (hk : n ≤ k) (x y : Value) :
    SpacePost R k w (.returned (.agg #[.int .i64 m', v])) (((w6.alloc o).setCell ⟨w.heap.size, 0, none⟩ x).setCell ⟨w.heap.size, 1, none⟩ y) := by
  obtain ⟨_, _, _, h4, h5, _, h7⟩ := (h.below hB).below (bel1 w6 o)
  have h6 := h.2.2.2.2.2.1
  refine ⟨m', v, L, rfl, ((hown.below (bel1 w6 o)).set2 (by omega) _ _).le (by omega), hl, gbelow (gbelow h4 ((Below.refl _ _).setCell (p := ⟨w.heap.size, 0, none⟩) (Nat.le_refl _) _)) ((Below.refl _ _).setCell (p := ⟨w.heap.size, 1, none⟩) (Nat.le_refl _) _), ((h5.set h7).set h7).more hk⟩
theorem SI.pushP {R : Nat} {w : World} {m : Int} {n : Nat} {vv v : Value} {zs : List Int} {ps : List (Int × Int)} {wq w5 : World} {o : Obj} (h : SI R w m n vv zs wq) (hp : OwnsP wq (w.heap.size + 2) v ps) (hz : vv = .slice none 0 0 ∧ zs = [])
    (hg : (wq.alloc o).grownBy w5 v.ownBlock) : SI R w m n vv zs w5 := by
  obtain ⟨rfl, rfl⟩ := hz
  have hp' : wq.ownsRow (w.heap.size + 2) 79 2 v ps.length (pflat ps) := hp
  have hge : ∀ k, v.ownBlock = some k → w.heap.size + 2 ≤ k := fun k hk => (World.ownsRow.lt hp' k hk).1
  obtain ⟨h1, _, h3, h4, h5, h6, h7⟩ := h.below (bel1 wq o)
  have hne : ∀ k, k < w.heap.size + 2 → some k ≠ v.ownBlock := fun k hk e => by
    have := hge k e.symm
    omega
  exact ⟨(hg.block _ (by omega) (hne _ (by omega))).trans h1, World.ownsRow_nil _ _ _ _, (hg.block _ (by omega) (hne _ (by omega))).trans h3, gbelow h4 ((Below.refl _ _).grown hg (by omega) (fun k hk => by have := hge k hk; omega)), h5.grown hg (fun g e => by have := hge g e; omega), Nat.le_trans h6 hg.size, h7⟩
end Go.Proofs.YtgebplpbnaeckaaGreatDoor

/- Draw: The model's draw of a space. -/
namespace Go.Proofs.YtgebplpbnaeckaaGreatDoor
open Go.RowKit Go.Joins

theorem lit3 (w : World) (a b c : Int) : Ints (w.alloc (.cells #[.int .i64 a, .int .i64 b, .int .i64 c] 3)) (some ⟨w.heap.size, 0, none⟩) [a, b, c] := fun _ =>
  ⟨w.heap.size, 0, rfl, by simp, fun k hk => by
    match k, hk with
    | 0, _ => simp [go_sem]
    | 1, _ => simp [go_sem]
    | 2, _ => simp [go_sem]⟩

end Go.Proofs.YtgebplpbnaeckaaGreatDoor

/- DrawN: The model's draws of spaces, of numbers of answers and of judgments. -/
namespace Go.Proofs.YtgebplpbnaeckaaGreatDoor
open Go.RowKit Go.Joins

theorem lit5d (w : World) (a b c d e : Int) : Ints (w.alloc (.cells #[.int .i64 a, .int .i64 b, .int .i64 c, .int .i64 d, .int .i64 e] 3)) (some ⟨w.heap.size, 0, none⟩) [a, b, c, d, e] := fun _ =>
  ⟨w.heap.size, 0, rfl, by simp, fun k hk => by
    match k, hk with
    | 0, _ => simp [go_sem]
    | 1, _ => simp [go_sem]
    | 2, _ => simp [go_sem]
    | 3, _ => simp [go_sem]
    | 4, _ => simp [go_sem]⟩

/-- an answer's cells and the reader -/
def QI (R : Nat) (w : World) (n : Nat) (wq : World) : Prop :=
  wq.heap[w.heap.size]? = some (.cells #[.int .i64 0, .slice none 0 0] 37 (0, 0)) ∧ w.grownBy wq (some R) ∧ RD wq R n ∧ w.heap.size + 1 ≤ wq.heap.size ∧ R < w.heap.size
theorem QI.new {R : Nat} {w : World} {n : Nat} (h : RD w R n) : QI R w n (w.alloc (.cells #[.int .i64 0, .slice none 0 0] 37)) :=
  ⟨heap_alloc_new w _, gbelow (grefl0 w R) (bel1 w _), h.below (bel1 w _), by simp, h.lt⟩
theorem QI.below {R : Nat} {w : World} {n : Nat} {wq w' : World} (h : QI R w n wq) (hb : Below wq.heap.size wq w') : QI R w n w' := by
  obtain ⟨h1, h2, h3, h4, h5⟩ := h
  exact ⟨(hb.block _ (by omega)).trans h1, gbelow h2 (hb.mono (by omega)), h3.below hb, Nat.le_trans h4 hb.size, h5⟩
theorem QI.pick {R : Nat} {w : World} {n k : Nat} {wq w' : World} (h : QI R w n wq) (hg : wq.grownBy w' (some R)) (hr : RD w' R k) : QI R w k w' := by
  obtain ⟨h1, h2, _, h4, h5⟩ := h
  exact ⟨(hg.block _ (by omega) (by simp; omega)).trans h1, gpick h2 hg, hr, Nat.le_trans h4 hg.size, h5⟩
theorem QI.done {R : Nat} {w : World} {m : Int} {n k : Nat} {v : Value} {zs : List Int} {wq : World} (h : QI R w n wq) (ho : Owns wq (w.heap.size + 1) v zs) (hl : zs.length ≤ 64 ∧ m ≤ 5) (hk : n ≤ k) (x y : Value) :
    SpacePost R k w (.returned (.agg #[.int .i64 m, v])) ((wq.setCell ⟨w.heap.size, 0, none⟩ x).setCell ⟨w.heap.size, 1, none⟩ y) := by
  obtain ⟨_, h2, h3, _, h5⟩ := h
  exact ⟨m, v, zs, rfl, (ho.set2 (by omega) _ _).le (by omega), hl, gbelow (gbelow h2 ((Below.refl _ _).setCell (p := ⟨w.heap.size, 0, none⟩) (Nat.le_refl _) _)) ((Below.refl _ _).setCell (p := ⟨w.heap.size, 1, none⟩) (Nat.le_refl _) _), ((h3.set h5).set h5).more hk⟩

/-- What a draw of a number leaves: between -1 and 16. -/
def NumPost (R n : Nat) (w : World) (e : Ending) (w' : World) : Prop :=
  ∃ x : Int, e = .returned (.int .i64 x) ∧ (-1 ≤ x ∧ x ≤ 16) ∧ w.grownBy w' (some R) ∧ RD w' R n

end Go.Proofs.YtgebplpbnaeckaaGreatDoor

/- DrawM: The model's draw of a space that may be none. -/
namespace Go.Proofs.YtgebplpbnaeckaaGreatDoor
open Go.RowKit Go.Joins

theorem QI.set {R : Nat} {w : World} {n S i : Nat} {u : Value} {wq : World} (h : QI R w n wq) (hS : w.heap.size < S) : QI R w n (wq.setCell ⟨S, i, none⟩ u) := by
  obtain ⟨h1, h2, h3, h4, h5⟩ := h
  exact ⟨(Below.heap_setCell _ _ _ _ (by show w.heap.size ≠ S; omega)).trans h1, gbelow h2 ((Below.refl _ _).setCell (p := ⟨S, i, none⟩) (by show w.heap.size ≤ S; omega) _), h3.set (by omega), by simpa using h4, h5⟩
theorem QI.push {R : Nat} {w : World} {n : Nat} {wq w8 : World} {o : Obj} {row : Option Nat} (h : QI R w n wq) (hg : (wq.alloc o).grownBy w8 row) (hr : ∀ k, row = some k → w.heap.size + 1 ≤ k) : QI R w n w8 := by
  obtain ⟨h1, h2, h3, h4, h5⟩ := h.below (bel1 wq o)
  exact ⟨(hg.block _ (by omega) (fun e => by have := hr _ e.symm; omega)).trans h1, gbelow h2 ((Below.refl _ _).grown hg (by omega) (fun k hk => by have := hr k hk; omega)), h3.grown hg (fun g e => by have := hr g e; omega), Nat.le_trans h4 hg.size, h5⟩
/-- What a draw of a space, that may be none, leaves. -/
def SomePost (R n : Nat) (w : World) (e : Ending) (w' : World) : Prop :=
  ∃ (m : Int) (v : Value) (zs : List Int), e = .returned (.agg #[.int .i64 m, v]) ∧ Owns w' w.heap.size v zs ∧ (zs.length ≤ 65 ∧ m ≤ 5) ∧ w.grownBy w' (some R) ∧ RD w' R n
theorem QI.some {R : Nat} {w : World} {m : Int} {n k : Nat} {v : Value} {zs : List Int} {wq : World} (h : QI R w n wq) (ho : Owns wq (w.heap.size + 1) v zs) (hl : zs.length ≤ 65 ∧ m ≤ 5) (hk : n ≤ k) (x y : Value) :
    SomePost R k w (.returned (.agg #[.int .i64 m, v])) ((wq.setCell ⟨w.heap.size, 0, none⟩ x).setCell ⟨w.heap.size, 1, none⟩ y) := by
  obtain ⟨_, h2, h3, _, h5⟩ := h
  exact ⟨m, v, zs, rfl, (ho.set2 (by omega) _ _).le (by omega), hl, gbelow (gbelow h2 ((Below.refl _ _).setCell (p := ⟨w.heap.size, 0, none⟩) (Nat.le_refl _) _)) ((Below.refl _ _).setCell (p := ⟨w.heap.size, 1, none⟩) (Nat.le_refl _) _), ((h3.set h5).set h5).more hk⟩
theorem Owns.set1 {w : World} {base S i : Nat} {v u : Value} {zs : List Int} (h : Owns w base v zs) (hne : ∀ k, v.ownBlock = some k → k < S) : Owns (w.setCell ⟨S, i, none⟩ u) base v zs :=
  own_kept h (gset w S i u) fun k e e' => by cases e; have := hne _ e'; omega
theorem Owns.empty (w : World) {base : Nat} (hb : base ≤ w.heap.size) : Owns (w.alloc (.cells #[] 3)) base (.slice (some ⟨w.heap.size, 0, none⟩) 0 0) [] :=
  ⟨rfl, .inr ⟨w.heap.size, 0, #[], rfl, hb, heap_alloc_new w _, Nat.le_refl _, by unfold maxLen; omega, rfl, rfl⟩⟩

end Go.Proofs.YtgebplpbnaeckaaGreatDoor

/- DrawL: The draws of arguments: a space with a number beside it. -/
namespace Go.Proofs.YtgebplpbnaeckaaGreatDoor
open Go.RowKit Go.Joins

theorem Ints.other {w w' : World} {a : Option Addr} {zs : List Int} {row : Option Nat} (h : Ints w a zs) (hg : w.grownBy w' row) (hne : ∀ b o s, a = some ⟨b, o, s⟩ → row ≠ some b) : Ints w' a zs := fun hz => by
  obtain ⟨b, off, e, hlt, hc⟩ := h hz
  exact ⟨b, off, e, Nat.lt_of_lt_of_le hlt hg.size, fun k hk => hg.cell (hc k hk) (fun e' => hne b off none e e'.symm)⟩

/-- a cell of a block that holds no bytes -/
theorem RD.setOld {w : World} {R n g i : Nat} {v : Value} (h : RD w R n) (hg : g ≠ R) (hu : ∀ o (z : Nat), w.cell? ⟨g, o, none⟩ ≠ some (.int .u8 z)) : RD (w.setCell ⟨g, i, none⟩ v) R n := by
  obtain ⟨a, zs, cap, p, hblk, hp, hl, hby, hR⟩ := h
  have hs := gset w g i v
  refine ⟨a, zs, cap, p, (hs.block R (lt_of_block hblk) (by simp; omega)).trans hblk, hp, hl, ⟨fun hz => ?_, hby.2⟩, hR⟩
  obtain ⟨b, off, e, hb, hc⟩ := hby.1 hz
  have hbg : b ≠ g := fun e' => by
    have := hc 0 hz
    rw [e'] at this
    exact hu _ _ this
  exact ⟨b, off, e, by simpa using hb, fun k hk => hs.cell (hc k hk) (by simp; omega)⟩
theorem no_bytes {w : World} {g : Nat} {m : Int} {a : Option Addr} {len cap : Nat} (h : w.heap[g]? = some (.cells #[.int .i64 m, .slice a len cap] 37 (0, 0))) : ∀ o (z : Nat), w.cell? ⟨g, o, none⟩ ≠ some (.int .u8 z) := fun o z e => by
  rw [cell_of_block h o] at e
  match o, e with
  | 0, e => simp at e
  | 1, e => simp at e
  | o + 2, e => simp at e

/-- a drawn space in a variable of block B, an answer's cells x and y, the reader in block R -/
def DS (R : Nat) (w : World) (n : Nat) (x y : Value) (B : Nat) (m : Int) (a : Option Addr) (cap : Nat) (zs : List Int) (wq : World) : Prop :=
  wq.heap[w.heap.size]? = some (.cells #[x, y] 37 (0, 0)) ∧ wq.heap[B]? = some (.cells #[.int .i64 m, .slice a zs.length cap] 37 (0, 0)) ∧
    Ints wq a zs ∧ (∀ b o s, a = some ⟨b, o, s⟩ → R < b) ∧ Below w.heap.size w wq ∧ RD wq R n ∧ w.heap.size < R ∧ R < B
theorem DS.rd {R n B cap : Nat} {w wq : World} {x y : Value} {m : Int} {a : Option Addr} {zs : List Int} (h : DS R w n x y B m a cap zs wq) : RD wq R n := h.2.2.2.2.2.1
theorem DS.ints {R n B cap : Nat} {w wq : World} {x y : Value} {m : Int} {a : Option Addr} {zs : List Int} (h : DS R w n x y B m a cap zs wq) : Ints wq a zs := h.2.2.1
theorem DS.ne {R n B cap : Nat} {w wq : World} {x y : Value} {m : Int} {a : Option Addr} {zs : List Int} (h : DS R w n x y B m a cap zs wq) : ∀ b o s, a = some ⟨b, o, s⟩ → b ≠ R := fun b o s e => by
  have := h.2.2.2.1 b o s e
  omega
theorem DS.bel {R n B cap : Nat} {w wq : World} {x y : Value} {m : Int} {a : Option Addr} {zs : List Int} (h : DS R w n x y B m a cap zs wq) : Below w.heap.size w wq := h.2.2.2.2.1
theorem DS.pick {R n k B cap : Nat} {w wq w' : World} {x y : Value} {m : Int} {a : Option Addr} {zs : List Int} (h : DS R w n x y B m a cap zs wq) (hg : wq.grownBy w' (some R)) (hr : RD w' R k) : DS R w k x y B m a cap zs w' := by
  obtain ⟨h1, h2, h3, h4, h5, _, h7, h8⟩ := h
  exact ⟨(hg.block _ (lt_of_block h1) (by simp; omega)).trans h1, (hg.block _ (lt_of_block h2) (by simp; omega)).trans h2, h3.other hg (fun b o s e e' => by
    have h4' := h4 b o s e
    have : R = b := by simpa using e'
    omega), h4, bgrown h5 hg h5.size (fun k hk => by cases hk; omega), hr, h7, h8⟩
theorem DS.below {R n B cap : Nat} {w wq w' : World} {x y : Value} {m : Int} {a : Option Addr} {zs : List Int} (h : DS R w n x y B m a cap zs wq) (hb : Below wq.heap.size wq w') : DS R w n x y B m a cap zs w' := by
  obtain ⟨h1, h2, h3, h4, h5, h6, h7, h8⟩ := h
  exact ⟨(hb.block _ (lt_of_block h1)).trans h1, (hb.block _ (lt_of_block h2)).trans h2, h3.below hb, h4, h5.trans (hb.mono h5.size), h6.below hb, h7, h8⟩
theorem DS.drew {R n B cap : Nat} {w wq : World} {x y : Value} {m : Int} {a : Option Addr} {zs : List Int} (h : DS R w n x y B m a cap zs wq) : DS R w n x y B m a cap zs wq.drew := h.below (bdrew' (Below.refl _ _))
theorem DS.set2 {R n B cap n0 c0 n1 c1 : Nat} {w wq : World} {k k' : Int} {a0 a1 : Option Addr} {m : Int} {a : Option Addr} {zs : List Int} (h : DS R w n (.int .i64 k) (.slice a0 n0 c0) B m a cap zs wq) :
    DS R w n (.int .i64 k') (.slice a1 n1 c1) B m a cap zs ((wq.setCell ⟨w.heap.size, 0, none⟩ (.int .i64 k')).setCell ⟨w.heap.size, 1, none⟩ (.slice a1 n1 c1)) := by
  obtain ⟨h1, h2, h3, h4, h5, h6, h7, h8⟩ := h
  have s1 := block_setCell (i := 0) h1 (.int .i64 k')
  refine ⟨block_setCell (i := 1) s1 _, ?_, (h3.other (gset wq _ 0 _) ?_).other (gset _ _ 1 _) ?_, h4, (h5.setCell (p := ⟨w.heap.size, 0, none⟩) (Nat.le_refl _) _).setCell (p := ⟨w.heap.size, 1, none⟩) (Nat.le_refl _) _,
    (h6.setOld (by omega) (no_bytes h1)).setOld (by omega) (no_bytes s1), h7, h8⟩
  · exact (Below.heap_setCell _ _ _ _ (by show B ≠ w.heap.size; omega)).trans ((Below.heap_setCell _ _ _ _ (by show B ≠ w.heap.size; omega)).trans h2)
  all_goals
    intro b o s e e'
    have h4' := h4 b o s e
    have : w.heap.size = b := by simpa using e'
    omega
theorem DS.new {R : Nat} {w w1 w2 : World} {m : Int} {v : Value} {zs : List Int} {n : Nat}
    (hR : w.heap.size + 1 ≤ R) (rd : RD w1 R 0) (s1 : w1.heap[w.heap.size]? = some (.cells #[.int .i64 0, .slice none 0 0] 37 (0, 0))) (B1 : Below w.heap.size w w1)
    (own : Owns w2 w1.heap.size v zs) (g : w1.grownBy w2 (some R)) (rd2 : RD w2 R n) :
    ∃ a cap, v = .slice a zs.length cap ∧ DS R w n (.int .i64 0) (.slice none 0 0) w2.heap.size m a cap zs (w2.alloc (.cells #[.int .i64 m, v] 37)) := by
  obtain ⟨a, cap, rfl, iv, hge⟩ := own.form
  have hlt := rd.lt
  have hlt2 := g.size
  refine ⟨a, cap, rfl, ?_⟩
  have hb := bel1 w2 (.cells #[.int .i64 m, .slice a zs.length cap] 37)
  refine ⟨(hb.block _ (Nat.lt_of_lt_of_le (lt_of_block s1) hlt2)).trans ((g.block _ (lt_of_block s1) (by simp; omega)).trans s1), heap_alloc_new _ _, iv.below hb, fun b o s e => by have := (hge b o s e).1; omega, ?_, rd2.below hb, by omega, by omega⟩
  exact (bgrown B1 g B1.size (fun k hk => by cases hk; omega)).trans (hb.mono (by have := B1.size; omega))

/-- What a draw of a space and a number leaves. -/
def DrawSIPost (w : World) (e : Ending) (w' : World) : Prop :=
  ∃ (m : Int) (a : Option Addr) (zs : List Int) (cap : Nat) (x : Int), e = .returned (.tuple #[.agg #[.int .i64 m, .slice a zs.length cap], .int .i64 x]) ∧ Ints w' a zs ∧ zs.length ≤ 65 ∧ Below w.heap.size w w'
theorem DS.si {R n B cap : Nat} {w wq : World} {x y : Value} {m z : Int} {a : Option Addr} {zs : List Int} (h : DS R w n x y B m a cap zs wq) (hl : zs.length ≤ 65) : DrawSIPost w (.returned (.tuple #[.agg #[.int .i64 m, .slice a zs.length cap], .int .i64 z])) wq :=
  ⟨m, a, zs, cap, z, rfl, h.ints, hl, h.bel⟩

/-- What a draw of a judgment leaves. -/
def JudgePost (R n : Nat) (w : World) (e : Ending) (w' : World) : Prop :=
  ∃ x : Int, e = .returned (.int .i64 x) ∧ w.grownBy w' (some R) ∧ RD w' R n

end Go.Proofs.YtgebplpbnaeckaaGreatDoor

/- DrawC: The draws of a space alone. -/
namespace Go.Proofs.YtgebplpbnaeckaaGreatDoor
open Go.RowKit Go.Joins

/-- an answer's cells and the reader behind it -/
def EC (R : Nat) (w : World) (n : Nat) (wq : World) : Prop :=
  wq.heap[w.heap.size]? = some (.cells #[.int .i64 0, .slice none 0 0] 37 (0, 0)) ∧ Below w.heap.size w wq ∧ RD wq R n ∧ w.heap.size < R
theorem EC.pick {R n k : Nat} {w wq w' : World} (h : EC R w n wq) (hg : wq.grownBy w' (some R)) (hr : RD w' R k) : EC R w k w' := by
  obtain ⟨h1, h2, _, h4⟩ := h
  exact ⟨(hg.block _ (lt_of_block h1) (by simp; omega)).trans h1, bgrown h2 hg h2.size (fun k hk => by cases hk; omega), hr, h4⟩
/-- What a draw of a space alone leaves. -/
def DrawCPost (w : World) (e : Ending) (w' : World) : Prop :=
  ∃ (m : Int) (a : Option Addr) (zs : List Int) (cap : Nat), e = .returned (.agg #[.int .i64 m, .slice a zs.length cap]) ∧ Ints w' a zs ∧ zs.length ≤ 65 ∧ zs.length ≤ cap ∧ Below w.heap.size w w'
theorem cc_done {w wq : World} {m : Int} {a : Option Addr} {cap base : Nat} {zs : List Int} (ho : Owns wq base (.slice a zs.length cap) zs) (hb : w.heap.size < base) (hl : zs.length ≤ 65) (B : Below w.heap.size w wq) (x y : Value) :
    DrawCPost w (.returned (.agg #[.int .i64 m, .slice a zs.length cap])) ((wq.setCell ⟨w.heap.size, 0, none⟩ x).setCell ⟨w.heap.size, 1, none⟩ y) :=
  ⟨m, a, zs, cap, rfl, (ho.set2 (by omega) _ _).ints, hl, ho.cap, (B.setCell (p := ⟨w.heap.size, 0, none⟩) (Nat.le_refl _) _).setCell (p := ⟨w.heap.size, 1, none⟩) (Nat.le_refl _) _⟩






end Go.Proofs.YtgebplpbnaeckaaGreatDoor
