/- The drawer of arguments: a reader over bytes; pick and one. -/
import Derived.Test.YtbmodiobgkmngaaSV
import Derived.Test.YtbmodiobgkmngaaBits
import Derived.Test.YtbmodiobgkmngaaMark
import Derived.Deep.QuietTactic
import Derived.BigQuiet
import Derived.Handy
namespace Go.Proofs.Ytbmodiobgkmngaa
open Go.ChangeShapes Go.WideShapes Go.ChangeAt Go.RowKit Go.Joins Go.Deep

/-- A slice value whose address is a reads as the bytes zs. -/
def Byts (w : World) (a : Option Addr) (zs : List Nat) : Prop :=
  (0 < zs.length → ∃ b off, a = some ⟨b, off, none⟩ ∧ b < w.heap.size ∧ ∀ k, k < zs.length → w.cell? ⟨b, off + k, none⟩ = some (.int .u8 (zs.getD k 0 : Nat))) ∧ ∀ k, zs.getD k 0 ≤ 255
theorem Byts.below {w w' : World} {a : Option Addr} {zs : List Nat} (h : Byts w a zs) (hb : Below w.heap.size w w') : Byts w' a zs := ⟨fun hz => by
  obtain ⟨b, off, e, hlt, hc⟩ := h.1 hz
  exact ⟨b, off, e, Nat.lt_of_lt_of_le hlt hb.size, fun k hk => (hb.cell (p := ⟨b, off + k, none⟩) hlt).trans (hc k hk)⟩, h.2⟩
theorem Byts.take {w : World} {a : Option Addr} {zs : List Nat} (h : Byts w a zs) (n : Nat) : Byts w a (zs.take n) := by
  have hg : ∀ k, k < (zs.take n).length → (zs.take n).getD k 0 = zs.getD k 0 := fun k hk => by
    rw [List.getD_eq_getElem?_getD, List.getD_eq_getElem?_getD, List.getElem?_take_of_lt (by rw [List.length_take] at hk; omega)]
  refine ⟨fun hz => ?_, fun k => ?_⟩
  · obtain ⟨b, off, e, hlt, hc⟩ := h.1 (by rw [List.length_take] at hz; omega)
    exact ⟨b, off, e, hlt, fun k hk => by rw [hg k hk]; exact hc k (by rw [List.length_take] at hk; omega)⟩
  · rcases Nat.lt_or_ge k (zs.take n).length with hk | hk
    · rw [hg k hk]; exact h.2 k
    · rw [List.getD_eq_getElem?_getD, List.getElem?_eq_none hk]; simp

section
variable {H : Type} {enc : TypeId × Value → H} {P : Program} {w : World} {base : Nat} {spare : Nat → Bool} {held : Bool}
theorem open_bytes {r : Reach} {b0 : Nat} {t e : TypeId} {v : Value} {d : DataW H} {p : List MemPlace} (ht : P.underlying t = some (.slice e)) (he : P.underlying e = some (.int .u8)) (hc : P.cellsOf e = 1)
    (hv : Value.okWide P w r b0 t v) (h : DataW.Trod enc P w base spare held t v d p) : ∃ a zs cap, v = .slice a zs.length cap ∧ Byts w a zs ∧ zs.length ≤ maxLen ∧ zs.length ≤ cap := by
  obtain ⟨a0, len0, cap0, rfl⟩ := okWide_slice ht hv
  obtain ⟨fuel, hf⟩ := h
  rcases open_ints ht he hc hf with ⟨hcs, _⟩ | ⟨x, l, c, zs, hcs, _, hl, hm, hz, _, hcell, hwf⟩
  · simp [Value.cells] at hcs
    obtain ⟨rfl, rfl, rfl⟩ := hcs
    exact ⟨none, [], 0, rfl, ⟨fun h => by simp at h, fun k => by simp⟩, by simp, by simp⟩
  · simp [Value.cells] at hcs
    obtain ⟨rfl, rfl, rfl⟩ := hcs
    have hlz : len0 ≤ zs.length := by rw [hz]; split <;> omega
    have hlen : ((zs.take len0).map Int.toNat).length = len0 := by simp; omega
    have hb : ∀ k, k < len0 → ∃ z : Nat, zs.getD k 0 = (z : Int) ∧ ((zs.take len0).map Int.toNat).getD k 0 = z ∧ z ≤ 255 := fun k hk => by
      have hk' : k < zs.length := by omega
      have hmem : zs[k] ∈ zs := List.getElem_mem hk'
      have hbd := bounds_u8 (hwf _ hmem)
      refine ⟨zs[k].toNat, ?_, ?_, by omega⟩
      · rw [List.getD_eq_getElem?_getD, List.getElem?_eq_getElem hk']
        simp only [Option.getD_some]
        omega
      · simp [List.getD_eq_getElem?_getD, hk, hk']
    refine ⟨some x, (zs.take len0).map Int.toNat, cap0, by rw [hlen], ⟨fun h0 => ?_, fun k => ?_⟩, by omega, by omega⟩
    · rw [hlen] at h0
      have hc0 := hcell 0 (by omega)
      obtain ⟨b, off, spot⟩ := x
      have hspot : spot = none := by simpa [Addr.add] using World.cell?_spot hc0
      subst hspot
      have hb' : b < w.heap.size := World.block_lt_of_cell? w ⟨b, off, none⟩ (by simpa [Addr.add] using hc0)
      refine ⟨b, off, rfl, hb', fun k hk => ?_⟩
      rw [hlen] at hk
      have hck := hcell k (by omega)
      have e1 : (⟨b, off, none⟩ : Addr).add k = ⟨b, off + k, none⟩ := by
        unfold Addr.add
        by_cases h : k = 0 <;> simp [h]
      rw [e1] at hck
      obtain ⟨z, h1, h2, _⟩ := hb k hk
      rw [hck, h1, h2]
    · rcases Nat.lt_or_ge k len0 with hk | hk
      · obtain ⟨z, _, h2, h3⟩ := hb k hk
        rw [h2]; exact h3
      · rw [List.getD_eq_getElem?_getD, List.getElem?_eq_none (by rw [hlen]; exact hk)]; simp
end

/-- a reader in block R that has been asked at most n times -/
def RD (w : World) (R n : Nat) : Prop := ∃ (a : Option Addr) (zs : List Nat) (cap p : Nat),
  w.heap[R]? = some (.cells #[.slice a zs.length cap, .int .i64 p] 67 (0, 0)) ∧ p ≤ n ∧ zs.length ≤ 2000 ∧ Byts w a zs ∧ ∀ b o s, a = some ⟨b, o, s⟩ → 0 < zs.length → b < R
theorem RD.grown {w w' : World} {R n : Nat} {row : Option Nat} (h : RD w R n) (hg : w.grownBy w' row) (hr : ∀ g, row = some g → R < g) : RD w' R n := by
  obtain ⟨a, zs, cap, p, hblk, hp, hl, hby, hR⟩ := h
  have hlt := lt_of_block hblk
  have hne : some R ≠ row := by
    rcases row with _ | g
    · simp
    · have := hr g rfl
      simp only [ne_eq, Option.some.injEq]
      omega
  refine ⟨a, zs, cap, p, (hg.block R hlt hne).trans hblk, hp, hl, ⟨fun hz => ?_, hby.2⟩, hR⟩
  obtain ⟨b, off, e, hb, hc⟩ := hby.1 hz
  have hbR := hR b off none e hz
  refine ⟨b, off, e, Nat.lt_of_lt_of_le hb hg.size, fun k hk => hg.cell (hc k hk) ?_⟩
  rcases row with _ | g
  · simp
  · have := hr g rfl
    simp; omega
theorem RD.below {w w' : World} {R n : Nat} (h : RD w R n) (hb : Below w.heap.size w w') : RD w' R n := by
  obtain ⟨a, zs, cap, p, hblk, hp, hl, hby, hR⟩ := h
  exact ⟨a, zs, cap, p, (hb.block R (lt_of_block hblk)).trans hblk, hp, hl, hby.below hb, hR⟩
theorem RD.lt {w : World} {R n : Nat} (h : RD w R n) : R < w.heap.size := by
  obtain ⟨a, zs, cap, p, hblk, _⟩ := h
  exact lt_of_block hblk
theorem RD.more {w : World} {R n m : Nat} (h : RD w R n) (hm : n ≤ m) : RD w R m := by
  obtain ⟨a, zs, cap, p, hblk, hp, r⟩ := h
  exact ⟨a, zs, cap, p, hblk, by omega, r⟩
theorem gset (w : World) (R i : Nat) (v : Value) : w.grownBy (w.setCell ⟨R, i, none⟩ v) (some R) :=
  ⟨rfl, rfl, rfl, by simp, fun k _ hne => Below.heap_setCell _ _ _ _ (fun e => hne (by rw [e]))⟩
theorem gdrewN {w w' : World} {row : Option Nat} (h : w.grownBy w' row) (n : Nat) : w.grownBy (w'.drewN n) row := ⟨h.os, h.tape, h.output, h.size, h.block⟩
/-- what a number's digits with those of another make is no less than 0 -/
theorem xor_nonneg (a b : Nat) (ha : a < 9223372036854775808) (hb : b < 9223372036854775808) : 0 ≤ bits .xor .i64 (a : Int) (b : Int) := by
  have hx : a ^^^ b < 2 ^ 63 := Nat.xor_lt_two_pow (by omega) (by omega)
  show 0 ≤ IntKind.i64.wrap ((BitVec.ofInt 64 (a : Int) ^^^ BitVec.ofInt 64 (b : Int)).toNat : Int)
  rw [BitVec.toNat_xor, ofInt_small a ha, ofInt_small b hb, IntKind.wrap_i64]
  omega
theorem tmod_nat (a b : Nat) : Int.tmod (a : Int) (b : Int) = ((a % b : Nat) : Int) := by
  rw [Int.tmod_eq_emod_of_nonneg (by omega)]; rfl
theorem tdiv_nat (a b : Nat) : Int.tdiv (a : Int) (b : Int) = ((a / b : Nat) : Int) := by
  rw [Int.tdiv_eq_ediv_of_nonneg (by omega)]; rfl

/-- What pick leaves. -/
def PickPost (R n : Nat) (k : Int) (w : World) (e : Ending) (w' : World) : Prop :=
  ∃ r : Int, e = .returned (.int .i64 r) ∧ 0 ≤ r ∧ (1 ≤ k → r < k) ∧ (k < 1 → r = 0) ∧ w.grownBy w' (some R) ∧ RD w' R (n + 1)

set_option maxHeartbeats 4000000 in
set_option maxRecDepth 100000 in
theorem pick_any (R n : Nat) (k : Int) (w : World) (hr : RD w R n) (hn : n < 1073741824) (hk : -1048576 ≤ k ∧ k ≤ 1048576) :
    Calls Try.prog 50 #[.pointer (some ⟨R, 0, none⟩), .int .i64 k] w (PickPost R n k w) := by
  obtain ⟨a, zs, cap, p, hblk, hp, hl, hby, hbR⟩ := hr
  have g0 := cell_of_block hblk 0
  have g1 := cell_of_block hblk 1
  have f1 := unfrozen_of_block hblk 1
  have hblk2 := block_setCell (i := 1) hblk (.int .i64 ((p : Int) + 1))
  have HG := hide (gset w R 1 (.int .i64 ((p : Int) + 1)))
  have hrd : RD (w.setCell ⟨R, 1, none⟩ (.int .i64 ((p : Int) + 1))) R (n + 1) := by
    refine ⟨a, zs, cap, p + 1, hblk2, by omega, hl, ⟨fun hz => ?_, hby.2⟩, hbR⟩
    obtain ⟨b, off, e, hb, hc⟩ := hby.1 hz
    have hb' := hbR b off none e hz
    exact ⟨b, off, e, by simpa using hb, fun j hj => (HG.out).cell (hc j hj) (by simp; omega)⟩
  have HRD := hide hrd
  have e0 : (w.setCell ⟨R, 1, none⟩ (.int .i64 ((p : Int) + 1))).cell? ⟨R, 0, none⟩ = some (.slice a zs.length cap) := cell_of_block hblk2 0
  have e1 : (w.setCell ⟨R, 1, none⟩ (.int .i64 ((p : Int) + 1))).cell? ⟨R, 1, none⟩ = some (.int .i64 ((p : Int) + 1)) := cell_of_block hblk2 1
  obtain ⟨W, hW⟩ : ∃ W : World, W = w.setCell ⟨R, 1, none⟩ (.int .i64 ((p : Int) + 1)) := ⟨_, rfl⟩
  by_cases hk1 : k < 1
  · clear hW
    go_enter Try.func50, Try.ntmps50
    go_wp2
    go_ret
    exact ⟨0, rfl, by omega, fun h => by omega, fun _ => rfl, HG.out, HRD.out⟩
  · by_cases hz : zs.length = 0
    · have hZ : ((zs.length : Int) == 0) = true := by simpa using hz
      clear hW
      go_enter Try.func50, Try.ntmps50
      go_wp2
      go_ret
      exact ⟨0, rfl, by omega, fun h => by omega, fun _ => rfl, HG.out, HRD.out⟩
    · have hZ : ((zs.length : Int) == 0) = false := by simpa using hz
      have hpos : 0 < zs.length := by omega
      obtain ⟨b, off, rfl, hbl, hc⟩ := hby.1 hpos
      have hbR' := hbR b off none rfl hpos
      have hB := hby.2
      have hcW : ∀ j, j < zs.length → (w.setCell ⟨R, 1, none⟩ (.int .i64 ((p : Int) + 1))).cell? ⟨b, off + j, none⟩ = some (.int .u8 (zs.getD j 0 : Nat)) := fun j hj => (HG.out).cell (hc j hj) (by simp; omega)
      by_cases hlt : p < zs.length
      · obtain ⟨z, hzz⟩ : ∃ z, z = zs.getD p 0 := ⟨_, rfl⟩
        have hz255 : z ≤ 255 := by rw [hzz]; exact hB p
        have hcp := hcW p hlt
        rw [← hzz] at hcp
        obtain ⟨kk, rfl⟩ := Int.eq_ofNat_of_zero_le (show 0 ≤ k from by omega)
        have hmod : z % kk < kk := Nat.mod_lt _ (by omega)
        have HM := hide hmod
        have HT := hide (tmod_nat z kk)
        clear hW hcW hB hc hz hzz hmod hby hbR
        go_enter Try.func50, Try.ntmps50
        go_wp2
        go_ret
        refine ⟨((z % kk : Nat) : Int), ret_int ?_, by omega, fun _ => by have := HM.out; omega, fun h => by omega, HG.out, HRD.out⟩
        first | rfl | exact HT.out | (push_cast; rfl) | simp
      · obtain ⟨L, hL⟩ : ∃ L, L = zs.length := ⟨_, rfl⟩
        rw [← hL] at hlt hpos hZ hl e0
        have hlm : p % L < L := Nat.mod_lt _ hpos
        have hqm : (p * 7 + 3) % L < L := Nat.mod_lt _ hpos
        obtain ⟨i1, hi1⟩ : ∃ i, i = p % L := ⟨_, rfl⟩
        obtain ⟨i2, hi2⟩ : ∃ i, i = (p * 7 + 3) % L := ⟨_, rfl⟩
        rw [← hi1] at hlm
        rw [← hi2] at hqm
        obtain ⟨z1, hz1⟩ : ∃ z, z = zs.getD i1 0 := ⟨_, rfl⟩
        obtain ⟨z2, hz2⟩ : ∃ z, z = zs.getD i2 0 := ⟨_, rfl⟩
        have hz1b : z1 ≤ 255 := by rw [hz1]; exact hB i1
        have hz2b : z2 ≤ 255 := by rw [hz2]; exact hB i2
        have hc1 := hcW i1 (by omega)
        have hc2 := hcW i2 (by omega)
        rw [← hz1] at hc1
        rw [← hz2] at hc2
        obtain ⟨kk, rfl⟩ := Int.eq_ofNat_of_zero_le (show 0 ≤ k from by omega)
        have m1 : Int.tmod (p : Int) (L : Int) = (i1 : Int) := by rw [tmod_nat, hi1]
        have m2 : Int.tmod ((p : Int) * 7 + 3) (L : Int) = (i2 : Int) := by
          have h := tmod_nat (p * 7 + 3) L
          rw [hi2, ← h]
          push_cast
          rfl
        obtain ⟨d, hd⟩ : ∃ d, d = p / L := ⟨_, rfl⟩
        have hdp : d ≤ p := by rw [hd]; exact Nat.div_le_self _ _
        have q1 : Int.tdiv (p : Int) (L : Int) = (d : Int) := by rw [tdiv_nat, hd]
        obtain ⟨x, hx⟩ : ∃ x : Nat, x = z1 * 131 + z2 * 1117 + p * 29 + d * 53 := ⟨_, rfl⟩
        have hxb : x < 1000000000000 := by omega
        have w0 : IntKind.i64.wrap ((p : Int) + 1 - 1) = (p : Int) := by rw [IntWalk.i64_in _ (by omega)]; omega
        have w1 : IntKind.i64.wrap ((p : Int) * 7) = (p : Int) * 7 := IntWalk.i64_in _ (by omega)
        have w2 : IntKind.i64.wrap ((p : Int) * 7 + 3) = (p : Int) * 7 + 3 := IntWalk.i64_in _ (by omega)
        have w3 : IntKind.i64.wrap ((z1 : Int) * 131) = (z1 : Int) * 131 := IntWalk.i64_in _ (by omega)
        have w4 : IntKind.i64.wrap ((z2 : Int) * 1117) = (z2 : Int) * 1117 := IntWalk.i64_in _ (by omega)
        have w5 : IntKind.i64.wrap ((z1 : Int) * 131 + (z2 : Int) * 1117) = (z1 : Int) * 131 + (z2 : Int) * 1117 := IntWalk.i64_in _ (by omega)
        have w6 : IntKind.i64.wrap ((p : Int) * 29) = (p : Int) * 29 := IntWalk.i64_in _ (by omega)
        have w7 : IntKind.i64.wrap ((z1 : Int) * 131 + (z2 : Int) * 1117 + (p : Int) * 29) = (z1 : Int) * 131 + (z2 : Int) * 1117 + (p : Int) * 29 := IntWalk.i64_in _ (by omega)
        have w8 : IntKind.i64.wrap ((d : Int) * 53) = (d : Int) * 53 := IntWalk.i64_in _ (by omega)
        have w9 : IntKind.i64.wrap ((z1 : Int) * 131 + (z2 : Int) * 1117 + (p : Int) * 29 + (d : Int) * 53) = (x : Int) := by rw [IntWalk.i64_in _ (by omega), hx]; push_cast; rfl
        have v1 : IntKind.i64.wrap (z1 : Int) = (z1 : Int) := IntWalk.i64_in _ (by omega)
        have v2 : IntKind.i64.wrap (z2 : Int) = (z2 : Int) := IntWalk.i64_in _ (by omega)
        have hxor := xor_nonneg x (x / 64) (by omega) (by omega)
        obtain ⟨y, hy⟩ := Int.eq_ofNat_of_zero_le hxor
        have hy' : bits .xor .i64 (x : Int) ((x : Int) / 64) = (y : Int) := by rw [← hy]; push_cast; rfl
        have hq64 : Int.tdiv (x : Int) 64 = (x : Int) / 64 := Int.tdiv_eq_ediv_of_nonneg (by omega)
        have hmod : y % kk < kk := Nat.mod_lt _ (by omega)
        have HM := hide hmod
        have HT := hide (tmod_nat y kk)
        have HE : Hid (wrap64 (d : Int) = (d : Int) ∧ wrap64 ((d : Int) * 53) = (d : Int) * 53 ∧ wrap64 ((z1 : Int) * 131 + (z2 : Int) * 1117 + (p : Int) * 29 + (d : Int) * 53) = (x : Int) ∧ wrap64 ((x : Int) / 64) = (x : Int) / 64 ∧ bits .xor .i64 (x : Int) ((x : Int) / 64) = (y : Int) ∧ Int.tdiv (x : Int) 64 = (x : Int) / 64) :=
          ⟨IntWalk.wrap64_in _ (by omega), IntWalk.wrap64_in _ (by omega), by rw [IntWalk.wrap64_in _ (by omega), hx]; push_cast; rfl, IntWalk.wrap64_in _ (by omega), hy', hq64⟩
        have l1 : (i1 : Int) < (L : Int) := by omega
        have l2 : (i2 : Int) < (L : Int) := by omega
        clear hW hcW hB hc hmod hby hbR hxor hy hx hd hi1 hi2 hz1 hz2 hL hdp
        go_enter Try.func50, Try.ntmps50
        go_wp2
        go_quiet (fail)
        go_wp2
        go_ret
        refine ⟨((y % kk : Nat) : Int), ret_int ?_, by omega, fun _ => by have := HM.out; omega, fun h => by omega, gdrewN HG.out _, HRD.out.below (belN _ _)⟩
        obtain ⟨e1, e2, e3, e4, e5, e6⟩ := HE.out
        rw [e1, e2, e3, e6, e4, e5]
        exact HT.out

set_option maxHeartbeats 1000000 in
theorem newReader_any (a : Option Addr) (cap : Nat) (zs : List Nat) (w : World) (hi : Byts w a zs) (hl : zs.length ≤ 1048576) (hc : zs.length ≤ cap) :
    Calls Try.prog 22 #[.slice a zs.length cap] w fun e w' => ∃ R, e = .returned (.pointer (some ⟨R, 0, none⟩)) ∧ w.heap.size ≤ R ∧ RD w' R 0 ∧ Below w.heap.size w w' := by
  by_cases h : 2000 < zs.length
  · obtain ⟨b, off, rfl, hb, _⟩ := hi.1 (by omega)
    have ht := hi.take 2000
    have htl : (zs.take 2000).length = 2000 := by rw [List.length_take]; omega
    have HT := hide ht
    have HL := hide htl
    clear ht htl hi
    go_enter Try.func22, Try.ntmps22
    go_wp2
    go_ret
    refine ⟨w.heap.size, rfl, Nat.le_refl _, ⟨some ⟨b, off, none⟩, zs.take 2000, _, 0, by rw [HL.out]; exact heap_alloc_new w _, Nat.le_refl _, by rw [HL.out]; exact Nat.le_refl _, HT.out.below (bel1 w _), fun b' o s e _ => by cases e; exact hb⟩, bel1 w _⟩
  · have HI := hide hi
    go_enter Try.func22, Try.ntmps22
    go_wp2
    go_ret
    refine ⟨w.heap.size, rfl, Nat.le_refl _, ⟨a, zs, cap, 0, heap_alloc_new w _, Nat.le_refl _, by omega, HI.out.below (bel1 w _), fun b' o s e hz => ?_⟩, bel1 w _⟩
    obtain ⟨b, off, e', hb, _⟩ := HI.out.1 hz
    rw [e'] at e
    cases e
    exact hb

/-- What one leaves. -/
def OnePost (R n : Nat) (zs : List Int) (w : World) (e : Ending) (w' : World) : Prop :=
  ∃ x, x ∈ zs ∧ e = .returned (.int .i64 x) ∧ w.grownBy w' (some R) ∧ RD w' R (n + 1)
set_option maxHeartbeats 1000000 in
theorem one_any (R n cap : Nat) (l : Option Addr) (zs : List Int) (w : World) (hr : RD w R n) (hn : n < 1073741824) (hi : Ints w l zs) (h0 : 0 < zs.length) (h1 : zs.length ≤ 1000) (hne : ∀ b o s, l = some ⟨b, o, s⟩ → b ≠ R) :
    Calls Try.prog 24 #[.pointer (some ⟨R, 0, none⟩), .slice l zs.length cap] w (OnePost R n zs w) := by
  have HI := hide hi
  have HN := hide hne
  clear hi hne
  go_enter Try.func24, Try.ntmps24
  go_wp2_with fail
  refine (pick_any R n _ _ hr hn ⟨by omega, by omega⟩).mono ?_
  rintro e w1 ⟨r, rfl, hr0, hrl, _, hg, hrd⟩
  obtain ⟨i, rfl⟩ := Int.eq_ofNat_of_zero_le hr0
  have hil : i < zs.length := by have := hrl (by omega); omega
  obtain ⟨b, off, rfl, hb, hc⟩ := HI.out h0
  have hck := hg.cell (hc i hil) (by simp; exact HN.out b off none rfl)
  rw [getD_lt hil] at hck
  have HG := hide hg
  have HRD := hide hrd
  clear hc hrl hg hrd hr
  go_wp2
  go_ret
  exact ⟨_, List.getElem_mem hil, rfl, HG.out, HRD.out⟩
end Go.Proofs.Ytbmodiobgkmngaa
