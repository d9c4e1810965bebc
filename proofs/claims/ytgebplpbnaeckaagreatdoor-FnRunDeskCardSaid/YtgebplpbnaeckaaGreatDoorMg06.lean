/- Texts of this seat one behind the other: Med, MapB, MapK, MapL. Conditions: none. -/
import Derived.Test.YtgebplpbnaeckaaGreatDoorMg05
import Derived.Test.YtgebplpbnaeckaaGreatDoorMg00
import Derived.Deep.RegionHeld3
import Derived.Deep.RegionWith
import Derived.Maps.Own
import Derived.Maps.OwnSet
import Derived.DeepKeys4
import Derived.Maps.Keyed

/- Med: IsMedian and IsEven: what they answer; the model's loops. -/
namespace Go.Proofs.YtgebplpbnaeckaaGreatDoor
open Go.RowKit Go.Joins

theorem asc_valid {n : Int} {zs : List Int} (h : Valid n zs) : ∀ i j, i < j → j < zs.length → zs.getD i 0 < zs.getD j 0 := by
  intro i j hij hj
  induction j with
  | zero => omega
  | succ j ih =>
    have hs := (h.2.2 (j + 1) hj).2 (by omega)
    rw [Nat.add_sub_cancel] at hs
    rcases Nat.lt_or_ge i j with h1 | h1
    · have := ih h1 (by omega)
      omega
    · obtain rfl : i = j := by omega
      exact hs
theorem valid_nat {n : Int} {zs : List Int} (h : Valid n zs) : Asc (zs.map Int.toNat) ∧ (∀ x ∈ zs.map Int.toNat, x < 16) := by
  constructor
  · unfold Asc
    rw [List.pairwise_iff_getElem]
    intro i j hi hj hij
    simp only [List.length_map] at hi hj
    have h1 := asc_valid h i j hij hj
    rw [getD_lt hi, getD_lt hj] at h1
    have h2 := valid_range h _ (mem_of_at hi)
    simp only [List.getElem_map]
    omega
  · intro x hx
    obtain ⟨y, hy, rfl⟩ := List.mem_map.1 hx
    have := valid_range h y hy
    omega
/-- what IsMedian, IsEven answer -/
def closedB (f : Nat → Nat → Nat → Nat) (n : Int) (zs : List Int) : Bool := vsB n zs && ((joined f (zs.map Int.toNat)).length == zs.length)
theorem closedB_no {f : Nat → Nat → Nat → Nat} {n : Int} {zs : List Int} (h : vsB n zs = false) : closedB f n zs = false := by unfold closedB; rw [h]; rfl
/-- what three of the space make is in the space -/
def In3 (f : Nat → Nat → Nat → Nat) (zs : List Int) (i j k : Nat) : Prop := ((f (zN zs i) (zN zs j) (zN zs k) : Nat) : Int) ∈ zs
theorem closed_iff {f : Nat → Nat → Nat → Nat} (J : Join f) {n : Int} {zs : List Int} (h : Valid n zs) : closedB f n zs = true ↔ ∀ i j k, i < zs.length → j < zs.length → k < zs.length → In3 f zs i j k := by
  have ⟨ha, hlt⟩ := valid_nat h
  have hz : ∀ i, i < zs.length → (zs.map Int.toNat).getD i 0 = zN zs i := fun i hi => by
    unfold zN
    simp [List.getD_eq_getElem?_getD, hi]
  have hmem : ∀ t : Nat, t ∈ zs.map Int.toNat ↔ (t : Int) ∈ zs := fun t => by
    rw [List.mem_map]
    constructor
    · rintro ⟨y, hy, rfl⟩
      have := valid_range h y hy
      rwa [Int.toNat_of_nonneg this.1]
    · intro ht
      exact ⟨t, ht, by simp⟩
  have key := joined_len_iff J (zs.map Int.toNat) ha hlt
  rw [List.length_map] at key
  unfold closedB
  rw [vsB_true h, Bool.true_and, beq_iff_eq, key]
  constructor
  · intro hc i j k hi hj hk
    exact (hmem _).1 (hc _ ⟨i, j, k, by simpa using hi, by simpa using hj, by simpa using hk, by rw [hz i hi, hz j hj, hz k hk]⟩)
  · rintro hc x ⟨i, j, k, hi, hj, hk, rfl⟩
    have hi' : i < zs.length := by simpa using hi
    have hj' : j < zs.length := by simpa using hj
    have hk' : k < zs.length := by simpa using hk
    rw [hz i hi', hz j hj', hz k hk']
    exact (hmem _).2 (hc i j k hi' hj' hk')
theorem zN_at {n : Int} {zs : List Int} (h : Valid n zs) {i : Nat} (hi : i < zs.length) : zs[i] = (zN zs i : Int) ∧ zN zs i < 16 := by
  have := valid_range h _ (mem_of_at hi)
  unfold zN
  rw [getD_lt hi]
  constructor
  · rw [Int.toNat_of_nonneg this.1]
  · omega

theorem median_any (x y z : Nat) (w : World) (hx : x < 16) (hy : y < 16) (hz : z < 16) : Calls Tryz.prog 61 #[.int .i64 x, .int .i64 y, .int .i64 z] w fun e w' => e = .returned (.int .i64 (med x y z : Nat)) ∧ w = w' := by
  have h1 := and_small x y hx hy
  have h2 := and_small x z hx hz
  have h3 := and_small y z hy hz
  have l1 : x &&& y < 16 := Nat.and_lt_two_pow (n := 4) _ hy
  have l2 : x &&& z < 16 := Nat.and_lt_two_pow (n := 4) _ hz
  have l3 : y &&& z < 16 := Nat.and_lt_two_pow (n := 4) _ hz
  have h4 := or_small _ _ l1 l2
  have h5 := or_small (x &&& y ||| x &&& z) (y &&& z) (Nat.or_lt_two_pow (n := 4) l1 l2) l3
  go_enter Tryz.func61, Tryz.ntmps61
  go_wp2
  go_ret
  exact ⟨rfl, rfl⟩

set_option maxHeartbeats 4000000 in
theorem specIsMedian_any (n : Int) (a : Option Addr) (cap : Nat) (zs : List Int) (w : World) (hi : Ints w a zs) (hn : zs.length ≤ 1048576) :
    Calls Tryz.prog 38 #[.agg #[.int .i64 n, .slice a zs.length cap]] w fun e w' => e = .returned (.bool (closedB med n zs)) ∧ Below w.heap.size w w' := by
  have S0 := SV.new w n a zs cap none [] 37 hi (Ints.nil _ _)
  clear hi
  by_cases hv : vsB n zs = false
  · have HN := hide (closedB_no (f := med) hv)
    go_enter Tryz.func38, Tryz.ntmps38
    go_wp2_with fail
    refine (validSpace_any _ _ _ _ _ S0.2.1 hn).mono ?_
    rintro e w1 ⟨rfl, hb⟩
    go_wp2
    go_ret
    exact ⟨ret_bool HN.out.symm, (S0.below hb).2.2.2⟩
  · have hv : vsB n zs = true := by simpa using hv
    have hV := hide (valid_of hv)
    have hpos := hV.out.2.1
    go_enter Tryz.func38, Tryz.ntmps38
    go_wp2_with fail
    refine (validSpace_any _ _ _ _ _ S0.2.1 hn).mono ?_
    rintro e w1 ⟨rfl, hb⟩
    have S1 := S0.below hb
    clear S0 hb
    go_wp2
    go_loopw [3] (fun c wr => ∃ i : Nat, i ≤ zs.length ∧ c = .int .i64 i ∧ (∀ i0 j k, i0 < i → j < zs.length → k < zs.length → In3 med zs i0 j k) ∧ SV w n a zs cap none [] wr) (fun c _ => zs.length - (intOf c).toNat)
    case atStart => exact ⟨0, Nat.zero_le _, rfl, fun i0 j k h => by omega, S1⟩
    case round =>
      clear S1
      obtain ⟨i, hile, rfl, hall, SR⟩ := hrel
      have HA := hide hall
      clear hall
      obtain ⟨⟨_, c0, c1⟩, _⟩ := SR.pair
      by_cases hli : i < zs.length
      · obtain ⟨wo, rfl⟩ : ∃ wo : World, wo = wr := ⟨_, rfl⟩
        go_wp2
        clear c0 c1
        go_loopw [4] (fun c wr => ∃ j : Nat, j ≤ zs.length ∧ c = .int .i64 j ∧ (∀ j0 k, j0 < j → k < zs.length → In3 med zs i j0 k) ∧ SV w n a zs cap none [] wr) (fun c _ => zs.length - (intOf c).toNat)
        case atStart => exact ⟨0, Nat.zero_le _, rfl, fun j0 k h => by omega, SR⟩
        case round =>
          clear SR
          obtain ⟨j, hjle, rfl, hall, SR⟩ := hrel
          have HB := hide hall
          clear hall
          obtain ⟨⟨_, c0, c1⟩, _⟩ := SR.pair
          by_cases hlj : j < zs.length
          · obtain ⟨wi, rfl⟩ : ∃ wi : World, wi = wr := ⟨_, rfl⟩
            go_wp2
            clear c0 c1
            go_loopw [5] (fun c wr => ∃ k : Nat, k ≤ zs.length ∧ c = .int .i64 k ∧ (∀ k0, k0 < k → In3 med zs i j k0) ∧ SV w n a zs cap none [] wr) (fun c _ => zs.length - (intOf c).toNat)
            case atStart => exact ⟨0, Nat.zero_le _, rfl, fun k0 h => by omega, SR⟩
            case round =>
              clear SR
              obtain ⟨k, hkle, rfl, hall, SR⟩ := hrel
              have HC := hide hall
              clear hall
              obtain ⟨⟨_, c0, c1⟩, iz, _⟩ := SR.pair
              by_cases hlk : k < zs.length
              · obtain ⟨b, off, rfl, hbl, hc⟩ := iz hpos
                have hxi := hc i hli
                have hxj := hc j hlj
                have hxk := hc k hlk
                rw [getD_lt hli, (zN_at hV.out hli).1] at hxi
                rw [getD_lt hlj, (zN_at hV.out hlj).1] at hxj
                rw [getD_lt hlk, (zN_at hV.out hlk).1] at hxk
                have l1 := (zN_at hV.out hli).2
                have l2 := (zN_at hV.out hlj).2
                have l3 := (zN_at hV.out hlk).2
                clear hc iz
                by_cases he : In3 med zs i j k
                · have hE := hasB_true he
                  have HE := hide he
                  clear he
                  go_wp2
                  go_region_held3 (fun w' => w'.cell? ⟨w.heap.size, 0, none⟩ = some (.int .i64 n) ∧ w'.cell? ⟨w.heap.size, 1, none⟩ = some (.slice (some ⟨b, off, none⟩) zs.length cap) ∧ w'.cell? ⟨b, off + i, none⟩ = some (.int .i64 (zN zs i)) ∧ w'.cell? ⟨b, off + j, none⟩ = some (.int .i64 (zN zs j)) ∧ w'.cell? ⟨b, off + k, none⟩ = some (.int .i64 (zN zs k)))
                    (first
                      | exact ⟨c0, c1, hxi, hxj, hxk⟩
                      | exact ⟨S3.1.2.1, S3.1.2.2, ((bdrew hb3).cell (p := ⟨b, off + i, none⟩) hbl).trans hxi, ((bdrew hb3).cell (p := ⟨b, off + j, none⟩) hbl).trans hxj, ((bdrew hb3).cell (p := ⟨b, off + k, none⟩) hbl).trans hxk⟩
                      | go_keep)
                    (first
                      | (go_at_call 61; refine (median_any _ _ _ _ l1 l2 l3).mono ?_; rintro e w' ⟨rfl, rfl⟩)
                      | (go_at_call 29; refine (has_any _ _ _ _ _ _ SR.drew.2.1 hn).mono ?_; rintro e w3 ⟨rfl, hb3⟩; have S3 := SR.drew.below hb3))
                  go_wp2
                  go_roundw
                  case rel => exact ⟨k + 1, by omega, by go_num, fun k0 h0 => by
                    rcases Nat.lt_or_ge k0 k with h | h
                    · exact HC.out k0 h
                    · obtain rfl : k0 = k := by omega
                      exact HE.out, SR.drew.below hb3⟩
                  case measure => simp only [intOf]; omega
                · have hE := hasB_false he
                  have HN : Hid (closedB med n zs = false) := by
                    unfold Hid
                    cases hc : closedB med n zs
                    · rfl
                    · exact absurd ((closed_iff join_med hV.out).1 hc i j k hli hlj hlk) he
                  clear he
                  go_wp2
                  go_region_held3 (fun w' => w'.cell? ⟨w.heap.size, 0, none⟩ = some (.int .i64 n) ∧ w'.cell? ⟨w.heap.size, 1, none⟩ = some (.slice (some ⟨b, off, none⟩) zs.length cap) ∧ w'.cell? ⟨b, off + i, none⟩ = some (.int .i64 (zN zs i)) ∧ w'.cell? ⟨b, off + j, none⟩ = some (.int .i64 (zN zs j)) ∧ w'.cell? ⟨b, off + k, none⟩ = some (.int .i64 (zN zs k)))
                    (first
                      | exact ⟨c0, c1, hxi, hxj, hxk⟩
                      | exact ⟨S3.1.2.1, S3.1.2.2, ((bdrew hb3).cell (p := ⟨b, off + i, none⟩) hbl).trans hxi, ((bdrew hb3).cell (p := ⟨b, off + j, none⟩) hbl).trans hxj, ((bdrew hb3).cell (p := ⟨b, off + k, none⟩) hbl).trans hxk⟩
                      | go_keep)
                    (first
                      | (go_at_call 61; refine (median_any _ _ _ _ l1 l2 l3).mono ?_; rintro e w' ⟨rfl, rfl⟩)
                      | (go_at_call 29; refine (has_any _ _ _ _ _ _ SR.drew.2.1 hn).mono ?_; rintro e w3 ⟨rfl, hb3⟩; have S3 := SR.drew.below hb3))
                  go_wp2
                  go_ret
                  exact ⟨ret_bool HN.out.symm, (SR.drew.below hb3).2.2.2⟩
              · obtain rfl : k = zs.length := by omega
                go_wp2
                go_roundw
                case rel => exact ⟨j + 1, by omega, by go_num, fun j0 k0 hj0 hk0 => by
                  rcases Nat.lt_or_ge j0 j with h | h
                  · exact HB.out j0 k0 h hk0
                  · obtain rfl : j0 = j := by omega
                    exact HC.out k0 hk0, SR⟩
                case measure => simp only [intOf]; omega
          · obtain rfl : j = zs.length := by omega
            go_wp2
            go_roundw
            case rel => exact ⟨i + 1, by omega, by go_num, fun i0 j0 k0 hi0 hj0 hk0 => by
              rcases Nat.lt_or_ge i0 i with h | h
              · exact HA.out i0 j0 k0 h hj0 hk0
              · obtain rfl : i0 = i := by omega
                exact HB.out j0 k0 hj0 hk0, SR⟩
            case measure => simp only [intOf]; omega
      · obtain rfl : i = zs.length := by omega
        have HN := hide ((closed_iff join_med hV.out).2 HA.out)
        go_wp2
        go_ret
        exact ⟨ret_bool HN.out.symm, SR.2.2.2⟩
end Go.Proofs.YtgebplpbnaeckaaGreatDoor

/- MapB: Maps of bools of the call's own: looking up. -/
namespace Go.Proofs.YtgebplpbnaeckaaGreatDoor
open Go Go.ChangeMaps Go.MapKept Go.WideShapes
open Go.Maps (Keyed)

theorem plainElem_bool_inv {H : Type} {P : Program} {e : TypeId} (he : P.underlying e = some .bool) {v : Value} {z : DataW H × List MemPlace} (h : plainElem P e v = some z) : ∃ x, v = .bool x ∧ z = (.lit (.bool x), []) := by
  unfold plainElem at h
  rw [he] at h
  cases v <;> simp at h
  rename_i x
  exact ⟨x, rfl, h.symm⟩
theorem lookup_bool {H : Type} {P : Program} {w : World} {k t e : TypeId} {b n : Nat} {D : DataW H} (h : w.ownsMap P k (plainElem P e) b n D) (K : Keyed P k) (ht : P.underlying t = some (.map k e)) (he : P.underlying e = some .bool) (hz : (zeroValue e).run P w = .ok (.bool false) w)
    {key : Value} {kl : Lit} (hkey : keyOf P k key = some kl) : ∃ x, (Instr.lookup t (.map (some b)) key false).run P w = .ok (.bool x) w ∧ D.atKey kl (.lit (.bool false)) = .lit (.bool x) := by
  obtain ⟨v, ps, hrun, hv⟩ := h.lookup K ht hz (plainElem_bool he false) hkey
  obtain ⟨x, rfl, hx⟩ := plainElem_bool_inv he hv
  simp only [Prod.mk.injEq] at hx
  exact ⟨x, hrun, hx.1⟩
end Go.Proofs.YtgebplpbnaeckaaGreatDoor

/- MapK: A part as a map's key. -/
namespace Go.Proofs.YtgebplpbnaeckaaGreatDoor
open Go

/-- how a part stands as a key -/
def litP (c b : Int) : Lit := .string (keyBytes [.int .i64 c, .int .i64 b])
theorem part_cells : Tryz.prog.cellsOf 79 = 2 := by kernel_rfl
theorem int_cells : Tryz.prog.cellsOf 3 = 1 := by kernel_rfl
theorem part_keyType : Tryz.prog.keyType 79 = true := by kernel_rfl
set_option maxRecDepth 20000 in
theorem part_key (c b : Int) (hc : (Lit.int .i64 c).wf = true) (hb : (Lit.int .i64 b).wf = true) : keyOf Tryz.prog 79 (.agg #[.int .i64 c, .int .i64 b]) = some (litP c b) := by
  unfold keyOf
  rw [Tryz.underlying79]
  simp only [part_keyType, Bool.true_and]
  have hf : (Value.agg #[.int .i64 c, .int .i64 b]).formed Tryz.prog 79 = true := by simp [Value.formed, Tryz.underlying79, part_cells]
  rw [if_pos hf]
  have hl : Tryz.prog.keyLits (Tryz.prog.types.size + 1) 79 (Value.agg #[.int .i64 c, .int .i64 b]).cells.toList = some [.int .i64 c, .int .i64 b] := by
    have h0 : 0 < Tryz.prog.types.size := of_decide_eq_true (by kernel_rfl)
    obtain ⟨d, hd⟩ : ∃ d, Tryz.prog.types.size = d + 1 := ⟨Tryz.prog.types.size - 1, by omega⟩
    have hk : ∀ x : Int, (Lit.int .i64 x).wf = true → Tryz.prog.keyLits (d + 1) 3 [.int .i64 x] = some [.int .i64 x] := fun x hx => by
      unfold Program.keyLits
      rw [Tryz.underlying3]
      simp only [hx, and_self, if_true]
    rw [hd]
    unfold Program.keyLits
    rw [Tryz.underlying79]
    have e : (Value.agg #[.int .i64 c, .int .i64 b]).cells.toList = [.int .i64 c, .int .i64 b] := rfl
    rw [e]
    simp [part_cells, int_cells, List.mapM_cons, hk c hc, hk b hb]
  rw [hl]
  rfl
end Go.Proofs.YtgebplpbnaeckaaGreatDoor

/- MapL: Maps with parts as keys: the keys' law. -/
namespace Go.Proofs.YtgebplpbnaeckaaGreatDoor
open Go Go.ChangeMaps Go.MapKept Go.WideShapes Go.WideAt
open Go.Maps (Keyed)

theorem map_laid : laidOutB Tryz.prog = true := by kernel_rfl
theorem part_row : (79 : TypeId) < Tryz.prog.types.size := of_decide_eq_true (by kernel_rfl)
theorem part_wide : (match Tryz.prog.underlying 79 with | some (.array _ _) | some (.struct _) => true | _ => false) = true := by kernel_rfl
set_option maxRecDepth 100000 in
theorem part_keyed : Keyed Tryz.prog 79 := Keyed.of_law (deep_law_laid map_laid (m := 2) (by omega) part_row (by kernel_rfl) part_wide)
end Go.Proofs.YtgebplpbnaeckaaGreatDoor
