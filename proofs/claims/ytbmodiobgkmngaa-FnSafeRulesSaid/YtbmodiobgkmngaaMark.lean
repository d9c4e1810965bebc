/- Marks: writing numbers into a slice that a call has made, and looking whether they are still there. -/
import Derived.Test.YtbmodiobgkmngaaLaws
namespace Go.Proofs.Ytbmodiobgkmngaa
open Go.RowKit Go.Joins

/-- the numbers k, k+1, .. -/
def marks (k : Int) (n : Nat) : List Int := (List.range n).map fun (i : Nat) => k + (i : Int)
theorem marks_length (k : Int) (n : Nat) : (marks k n).length = n := by simp [marks]
theorem marks_getD (k : Int) (n i : Nat) (h : i < n) : (marks k n).getD i 0 = k + (i : Int) := by
  simp [marks, List.getD_eq_getElem?_getD, h]

theorem gtrans {a b c : World} {row : Option Nat} (h : a.grownBy b row) (h' : b.grownBy c row) : a.grownBy c row :=
  ⟨h'.os.trans h.os, h'.tape.trans h.tape, h'.output.trans h.output, Nat.le_trans h.size h'.size, fun k hk hne => (h'.block k (Nat.lt_of_lt_of_le hk h.size) hne).trans (h.block k hk hne)⟩

set_option maxHeartbeats 400000 in
theorem markIntS_any (v : Value) (zs : List Int) (base : Nat) (k : Int) (w : World) (ho : Owns w base v zs) (hn : zs.length ≤ 1048576) (h0 : 0 ≤ k) (h1 : k ≤ 4194304) :
    Calls Try.prog 47 #[v, .int .i64 k] w fun e w' => e = .returned (.int .i64 (k + zs.length)) ∧ Owns w' base v (marks k zs.length) ∧ w.grownBy w' v.ownBlock := by
  have ho' : w.ownsRow base 3 1 v zs.length (zs.map (Value.int .i64)) := ho
  rcases ownsRow_forms ho' with ⟨rfl, h00⟩ | ⟨g, cap, rfl⟩
  · have hz : zs = [] := List.length_eq_zero_iff.1 h00
    subst hz
    go_enter Try.func47, Try.ntmps47
    go_wp2
    refine wp_loop_rounds 1 ?_
    rw [rounds_succ]
    go_wp2
    go_ret
    exact ⟨ret_int (by simp), ho, World.grownBy.refl _ _⟩
  · have hsz := hide (show zs.length = zs.length from rfl)
    obtain ⟨n, hnn⟩ : ∃ n, n = zs.length := ⟨_, rfl⟩
    rw [← hnn] at ho' hn ⊢
    clear hnn ho hsz
    go_enter Try.func47, Try.ntmps47
    go_wp2
    go_loopw [1, 5] (fun kk i wr => ∃ (j : Nat) (ys : List Int), j ≤ n ∧ i = .int .i64 j ∧ kk = .int .i64 (k + j) ∧ ys.length = n ∧ (∀ t, t < j → ys.getD t 0 = k + (t : Int)) ∧
        wr.ownsRow base 3 1 (.slice (some ⟨g, 0, none⟩) n cap) n (ys.map (Value.int .i64)) ∧ w.grownBy wr (some g))
      (fun _ i _ => n - (intOf i).toNat)
    case atStart => exact ⟨0, zs, by omega, rfl, by simp, by have := ho'.1; simpa using this, fun t ht => by omega, ho', World.grownBy.refl _ _⟩
    case round =>
      obtain ⟨j, ys, hj, rfl, rfl, hl, hall, hown, hg⟩ := hrel
      have HL := hide hl
      have HA := hide hall
      clear hl hall
      by_cases hlt : j < n
      · have hst := hown.cellAt j (by omega)
        rw [List.getElem?_map, List.getElem?_eq_getElem (by rw [HL.out]; exact hlt)] at hst
        have hfz := hown.frozenAt j
        go_wp2
        go_roundw
        case rel => exact ⟨j + 1, ys.set j (k + j), by omega, by go_num, by go_num, by rw [List.length_set]; exact HL.out, fun t ht => by
          rcases Nat.lt_or_ge t j with h | h
          · have := HA.out t h
            rw [List.getD_eq_getElem?_getD, List.getElem?_set_ne (by omega), ← List.getD_eq_getElem?_getD]; exact this
          · obtain rfl : t = j := by omega
            rw [List.getD_eq_getElem?_getD, List.getElem?_set_self (by rw [HL.out]; exact hlt)]; rfl, by rw [List.map_set]; exact (hown.stored j _).1, gtrans hg (hown.stored j _).2⟩
        case measure => simp only [intOf]; omega
      · obtain rfl : j = n := by omega
        go_wp2
        go_ret
        refine ⟨rfl, ?_, hg⟩
        have he : ys = marks k j := ints_ext (by rw [HL.out, marks_length]) (fun t ht => by
          have h := HL.out
          rw [HA.out t (by omega), marks_getD k j t (by omega)])
        unfold Owns
        rw [marks_length, ← he]
        exact hown

/-- all of a list are the numbers k, k+1, .. -/
def heldV (zs : List Int) (k : Int) : Int := if zs = marks k zs.length then k + zs.length else -1

set_option maxHeartbeats 400000 in
theorem heldIntS_any (a : Option Addr) (cap : Nat) (zs : List Int) (k : Int) (w : World) (hi : Ints w a zs) (hn : zs.length ≤ 1048576) (h0 : 0 ≤ k) (h1 : k ≤ 4194304) (he : zs = marks k zs.length) :
    Calls Try.prog 48 #[.slice a zs.length cap, .int .i64 k] w fun e w' => e = .returned (.int .i64 (k + zs.length)) ∧ Below w.heap.size w w' := by
  have hg : ∀ j, j < zs.length → zs.getD j 0 = k + (j : Int) := fun j hj => by
    have := congrArg (fun l : List Int => l.getD j 0) he
    rw [this, marks_getD k _ j hj]
  have HG := hide hg
  clear hg he
  go_enter Try.func48, Try.ntmps48
  go_wp2
  go_loopw [1, 5] (fun kk i wr => ∃ j : Nat, j ≤ zs.length ∧ i = .int .i64 j ∧ kk = .int .i64 (k + j) ∧ Below w.heap.size w wr) (fun _ i _ => zs.length - (intOf i).toNat)
  case atStart => exact ⟨0, Nat.zero_le _, rfl, by simp, Below.refl _ _⟩
  case round =>
    obtain ⟨j, hj, rfl, rfl, hb⟩ := hrel
    by_cases hlt : j < zs.length
    · obtain ⟨b, off, rfl, hbl, hc⟩ := (hi.below hb) (by omega)
      have hck := hc j hlt
      rw [HG.out j hlt] at hck
      clear hc hi
      go_wp2
      go_roundw
      case rel => exact ⟨j + 1, by omega, by go_num, by go_num, hb⟩
      case measure => simp only [intOf]; omega
    · obtain rfl : j = zs.length := by omega
      go_wp2
      go_ret
      exact ⟨rfl, hb⟩

theorem markSpace_any (n : Int) (a : Option Addr) (cap : Nat) (zs : List Int) (base : Nat) (k : Int) (w : World) (ho : Owns w base (.slice a zs.length cap) zs) (hn : zs.length ≤ 1048576) (h0 : 0 ≤ k) (h1 : k ≤ 4194304) :
    Calls Try.prog 19 #[.agg #[.int .i64 n, .slice a zs.length cap], .int .i64 k] w fun e w' => e = .returned (.int .i64 (k + zs.length)) ∧ w.grownBy w' (Value.slice a zs.length cap).ownBlock := by
  have hg := World.grownBy_alloc w (.cells #[.int .i64 n, .slice a zs.length cap] 25) (Value.slice a zs.length cap).ownBlock
  have ho1 : Owns (w.alloc (.cells #[.int .i64 n, .slice a zs.length cap] 25)) base (.slice a zs.length cap) zs := ho.below (bel1 w _)
  go_enter Try.func19, Try.ntmps19
  go_wp2_with fail
  refine (markIntS_any _ _ _ _ _ ho1 hn h0 h1).mono ?_
  rintro e w1 ⟨rfl, _, hg1⟩
  go_wp2
  go_ret
  exact ⟨rfl, gtrans hg hg1⟩

end Go.Proofs.Ytbmodiobgkmngaa
