/- Texts of this seat one behind the other: Valid, Mark, Apt, Bits. Conditions: none. -/
import Derived.Test.YtgebplpbnaeckaaGreatDoorMg00
import Derived.Outline
import Derived.OwnWalk
import Derived.OpenShut
import Derived.ArgAppend
import Derived.WalkKit
import Derived.Laws.BitsAllLaws

/- Valid: Contracts of the two validity checks of a space. -/
namespace Go.Proofs.YtgebplpbnaeckaaGreatDoor
open Go.RowKit Go.Joins

theorem quiet_left {P : Program} {f : FuncId} {args : Array Value} {w : World} {n : Nat} {v : Value}
    (h : Calls P f args (w.drewN n) fun e w' => e = .returned v ∧ w.drewN n = w') : Calls P f args (w.drewN n) fun e w'' => e = .returned v ∧ ∃ m, w'' = w.drewN m :=
  h.mono fun _ _ ⟨he, hm⟩ => ⟨he, n, hm.symm⟩
theorem wrap_pow (n : Int) (h4 : n ≤ 4) : wrap64 (2 ^ n.toNat) = pw n := by
  have h1 := pw_pos n
  have h2 := pw_le n h4
  have e : (2 : Int) ^ n.toNat = pw n := by unfold pw; rw [Int.natCast_pow]; rfl
  rw [e]
  unfold wrap64
  omega

/-- A judgment is in its range, and greater than the one before. -/
def okAt (n : Int) (zs : List Int) (i : Nat) : Prop := (0 ≤ zs.getD i 0 ∧ zs.getD i 0 ≤ pw n - 1) ∧ (0 < i → zs.getD (i - 1) 0 < zs.getD i 0)

set_option maxHeartbeats 1000000 in
theorem validSpace_any (n : Int) (a : Option Addr) (cap : Nat) (zs : List Int) (w : World) (hi : Ints w a zs) (hn : zs.length ≤ 1048576) :
    Calls Tryz.prog 27 #[.agg #[.int .i64 n, .slice a zs.length cap]] w fun e w' => e = .returned (.bool (vsB n zs)) ∧ Below w.heap.size w w' := by
  by_cases h1 : 1 ≤ n ∧ n ≤ 4
  · have hd : decide (1 ≤ n ∧ n ≤ 4) = true := by simpa using h1
    obtain ⟨h1, h4⟩ := h1
    by_cases h0 : zs.length = 0
    · have hz : ((zs.length : Int) == 0) = true := by simpa using h0
      have HF := hide (vsB_false (n := n) (zs := zs) (fun h => by have := h.2.1; omega))
      clear h0
      go_enter Tryz.func27, Tryz.ntmps27
      go_wp2_with (go_at_call 30; refine (inRange_any _ _ _ _).mono ?_; rintro e w' ⟨rfl, rfl⟩)
      go_ret
      exact ⟨ret_bool HF.out.symm, bel1 w _⟩
    · have hz : ((zs.length : Int) == 0) = false := by simpa using h0
      have hpos : 0 < zs.length := by omega
      clear h0
      obtain ⟨b, off, rfl, hbl, hc⟩ := hi hpos
      have p1 := pw_pos n
      have p2 := pw_le n h4
      go_enter Tryz.func27, Tryz.ntmps27
      go_wp2_with (go_at_call 30; refine (inRange_any _ _ _ _).mono ?_; rintro e w' ⟨rfl, rfl⟩)
      go_loopw [3] (fun i wr => ∃ k : Nat, k ≤ zs.length ∧ i = .int .i64 k ∧ (∀ j, j < k → okAt n zs j) ∧ Below (w.heap.size + 1) (w.alloc (.cells #[.int .i64 n, .slice (some ⟨b, off, none⟩) zs.length cap] 37)) wr) (fun i _ => zs.length - (intOf i).toNat)
      case atStart => exact ⟨0, Nat.zero_le _, rfl, fun j hj => by omega, Below.refl _ _⟩
      case round =>
        obtain ⟨k, hk, rfl, hall, hb⟩ := hrel
        have HA := hide hall
        clear hall
        have c0 : wr.cell? ⟨w.heap.size, 0, none⟩ = some (.int .i64 n) := (hb.cell (p := ⟨w.heap.size, 0, none⟩) (by simp)).trans (by simp [go_sem])
        have c1 : wr.cell? ⟨w.heap.size, 1, none⟩ = some (.slice (some ⟨b, off, none⟩) zs.length cap) := (hb.cell (p := ⟨w.heap.size, 1, none⟩) (by simp)).trans (by simp [go_sem])
        by_cases hlt : k < zs.length
        · have hck : wr.cell? ⟨b, off + k, none⟩ = some (.int .i64 zs[k]) := by
            rw [← getD_lt hlt]
            exact (hb.cell (p := ⟨b, off + k, none⟩) (by simp; omega)).trans ((World.cell?_alloc_past _ _ _ hbl).trans (hc k hlt))
          have hw : IntKind.i64.wrap (pw n - 1) = pw n - 1 := IntWalk.i64_in _ (by omega)
          by_cases hr : 0 ≤ zs[k] ∧ zs[k] ≤ pw n - 1
          · have hd2 : decide (0 ≤ zs[k] ∧ zs[k] ≤ pw n - 1) = true := by simpa using hr
            have HR := hide hr
            clear hr
            by_cases hk0 : k = 0
            · have hg : decide ((0 : Int) < (k : Int)) = false := by simp; omega
              have hg2 : decide (0 < k) = false := by simp; omega
              have HK := hide hk0
              clear hk0 hc
              go_wp2
              go_quiet ((first | (go_at_call 45; exact quiet_left (power_any _ _ (by omega) (by omega))) | (go_at_call 30; exact quiet_left (inRange_any _ _ _ _))))
              go_wp2
              go_roundw
              case rel => exact ⟨k + 1, by omega, by go_num, fun j hj => by
                obtain rfl : j = k := by have := HK.out; omega
                unfold okAt
                rw [getD_lt hlt]
                exact ⟨HR.out, fun h => by have := HK.out; omega⟩, hb.trans ((belN _ _).mono (by have := hb.size; simpa using this))⟩
              case measure => simp only [intOf]; omega
            · have hkp : 0 < k := by omega
              have hw2 : IntKind.i64.wrap ((k : Int) - 1) = (k : Int) - 1 := IntWalk.i64_in _ (by omega)
              have hn1 : (1 : Int) ≤ (k : Int) := by omega
              have ht : ((k : Int) - 1).toNat = k - 1 := by omega
              have hlt' : k - 1 < zs.length := by omega
              have hcm : wr.cell? ⟨b, off + (k - 1), none⟩ = some (.int .i64 zs[k - 1]) := by
                rw [← getD_lt hlt']
                exact (hb.cell (p := ⟨b, off + (k - 1), none⟩) (by simp; omega)).trans ((World.cell?_alloc_past _ _ _ hbl).trans (hc _ hlt'))
              clear hk0 hc
              by_cases hle : zs[k] ≤ zs[k - 1]
              · have hdl : decide (zs[k] ≤ zs[k - 1]) = true := by simpa using hle
                have HF := hide (vsB_false (n := n) (zs := zs) (fun h => by have := (h.2.2 k hlt).2 hkp; rw [getD_lt hlt, getD_lt hlt'] at this; omega))
                go_wp2
                go_quiet ((first | (go_at_call 45; exact quiet_left (power_any _ _ (by omega) (by omega))) | (go_at_call 30; exact quiet_left (inRange_any _ _ _ _))))
                go_wp2
                go_ret
                exact ⟨ret_bool HF.out.symm, ((bel1 w _).trans (hb.mono (by omega))).trans ((belN _ _).mono (by have := hb.size; simp at this; omega))⟩
              · have hdl : decide (zs[k] ≤ zs[k - 1]) = false := by simpa using hle
                have HLE := hide hle
                clear hle
                go_wp2
                go_quiet ((first | (go_at_call 45; exact quiet_left (power_any _ _ (by omega) (by omega))) | (go_at_call 30; exact quiet_left (inRange_any _ _ _ _))))
                go_wp2
                go_roundw
                case rel => exact ⟨k + 1, by omega, by go_num, fun j hj => by
                  rcases Nat.lt_or_ge j k with h | h
                  · exact HA.out j h
                  · obtain rfl : j = k := by omega
                    unfold okAt
                    rw [getD_lt hlt, getD_lt hlt']
                    exact ⟨HR.out, fun _ => by have := HLE.out; omega⟩, hb.trans ((belN _ _).mono (by have := hb.size; simpa using this))⟩
                case measure => simp only [intOf]; omega
          · have hd2 : decide (0 ≤ zs[k] ∧ zs[k] ≤ pw n - 1) = false := by simpa using hr
            have HF := hide (vsB_false (n := n) (zs := zs) (fun h => hr (by have := (h.2.2 k hlt).1; rwa [getD_lt hlt] at this)))
            clear hr hc
            go_wp2
            go_quiet ((first | (go_at_call 45; exact quiet_left (power_any _ _ (by omega) (by omega))) | (go_at_call 30; exact quiet_left (inRange_any _ _ _ _))))
            go_wp2
            go_ret
            exact ⟨ret_bool HF.out.symm, ((bel1 w _).trans (hb.mono (by omega))).trans ((belN _ _).mono (by have := hb.size; simp at this; omega))⟩
        · obtain rfl : k = zs.length := by omega
          go_wp2
          go_ret
          exact ⟨ret_bool (vsB_true ⟨⟨h1, h4⟩, hpos, HA.out⟩).symm, (bel1 w _).trans (hb.mono (by omega))⟩
  · have hd : decide (1 ≤ n ∧ n ≤ 4) = false := by simpa using h1
    have HF := hide (vsB_false (n := n) (zs := zs) (fun h => h1 h.1))
    clear h1
    go_enter Tryz.func27, Tryz.ntmps27
    go_wp2_with (go_at_call 30; refine (inRange_any _ _ _ _).mono ?_; rintro e w' ⟨rfl, rfl⟩)
    go_ret
    exact ⟨ret_bool HF.out.symm, bel1 w _⟩

theorem validIssues_any (n : Int) (w : World) : Calls Tryz.prog 120 #[.int .i64 n] w fun e w' => e = .returned (.bool (decide (1 ≤ n ∧ n ≤ 4))) ∧ w = w' := by
  by_cases h1 : 1 ≤ n <;> by_cases h2 : n ≤ 4
  all_goals
    go_enter Tryz.func120, Tryz.ntmps120
    go_wp2
    go_ret
    exact ⟨ret_bool (by simp [h1, h2]), rfl⟩

theorem isJudgment_any (n x : Int) (w : World) (h0 : 0 ≤ n) (h4 : n ≤ 4) : Calls Tryz.prog 121 #[.int .i64 n, .int .i64 x] w fun e w' => e = .returned (.bool (decide (0 ≤ x ∧ x ≤ pw n - 1))) ∧ w = w' := by
  have hp := wrap_pow n h4
  by_cases h1 : 0 ≤ x <;> by_cases h2 : x < pw n
  all_goals
    go_enter Tryz.func121, Tryz.ntmps121
    go_wp2
    go_ret
    exact ⟨ret_bool (by simp; omega), rfl⟩


set_option maxHeartbeats 1000000 in
theorem implValidSpace_any (n : Int) (a : Option Addr) (cap : Nat) (zs : List Int) (w : World) (hi : Ints w a zs) (hn : zs.length ≤ 1048576) :
    Calls Tryz.prog 99 #[.agg #[.int .i64 n, .slice a zs.length cap]] w fun e w' => e = .returned (.bool (vsB n zs)) ∧ Below w.heap.size w w' := by
  by_cases h1 : 1 ≤ n ∧ n ≤ 4
  · have hd : decide (1 ≤ n ∧ n ≤ 4) = true := by simpa using h1
    obtain ⟨h1, h4⟩ := h1
    by_cases h0 : zs.length = 0
    · have hz : ((zs.length : Int) == 0) = true := by simpa using h0
      have HF := hide (vsB_false (n := n) (zs := zs) (fun h => by have := h.2.1; omega))
      clear h0
      go_enter Tryz.func99, Tryz.ntmps99
      go_wp2_with (go_at_call 120; refine (validIssues_any _ _).mono ?_; rintro e w' ⟨rfl, rfl⟩)
      go_ret
      exact ⟨ret_bool HF.out.symm, bel1 w _⟩
    · have hz : ((zs.length : Int) == 0) = false := by simpa using h0
      have hpos : 0 < zs.length := by omega
      clear h0
      obtain ⟨b, off, rfl, hbl, hc⟩ := hi hpos
      have p1 := pw_pos n
      have p2 := pw_le n h4
      go_enter Tryz.func99, Tryz.ntmps99
      go_wp2_with (go_at_call 120; refine (validIssues_any _ _).mono ?_; rintro e w' ⟨rfl, rfl⟩)
      go_loopw [18] (fun i wr => ∃ k : Nat, k ≤ zs.length ∧ i = .int .i64 k ∧ (∀ j, j < k → okAt n zs j) ∧ Below (w.heap.size + 1) (w.alloc (.cells #[.int .i64 n, .slice (some ⟨b, off, none⟩) zs.length cap] 37)) wr) (fun i _ => zs.length - (intOf i).toNat)
      case atStart => exact ⟨0, Nat.zero_le _, rfl, fun j hj => by omega, Below.refl _ _⟩
      case round =>
        obtain ⟨k, hk, rfl, hall, hb⟩ := hrel
        have HA := hide hall
        clear hall
        have c0 : wr.cell? ⟨w.heap.size, 0, none⟩ = some (.int .i64 n) := (hb.cell (p := ⟨w.heap.size, 0, none⟩) (by simp)).trans (by simp [go_sem])
        have c1 : wr.cell? ⟨w.heap.size, 1, none⟩ = some (.slice (some ⟨b, off, none⟩) zs.length cap) := (hb.cell (p := ⟨w.heap.size, 1, none⟩) (by simp)).trans (by simp [go_sem])
        by_cases hlt : k < zs.length
        · have hck : wr.cell? ⟨b, off + k, none⟩ = some (.int .i64 zs[k]) := by
            rw [← getD_lt hlt]
            exact (hb.cell (p := ⟨b, off + k, none⟩) (by simp; omega)).trans ((World.cell?_alloc_past _ _ _ hbl).trans (hc k hlt))
          by_cases hr : 0 ≤ zs[k] ∧ zs[k] ≤ pw n - 1
          · have hd2 : decide (0 ≤ zs[k] ∧ zs[k] ≤ pw n - 1) = true := by simpa using hr
            have HR := hide hr
            clear hr
            by_cases hk0 : k = 0
            · have hg : decide ((0 : Int) < (k : Int)) = false := by simp; omega
              have hg2 : decide (0 < k) = false := by simp; omega
              have HK := hide hk0
              clear hk0 hc
              go_wp2_with (go_at_call 121; refine (isJudgment_any _ _ _ (by omega) (by omega)).mono ?_; rintro e w' ⟨rfl, rfl⟩)
              go_roundw
              case rel => exact ⟨k + 1, by omega, by go_num, fun j hj => by
                obtain rfl : j = k := by have := HK.out; omega
                unfold okAt
                rw [getD_lt hlt]
                exact ⟨HR.out, fun h => by have := HK.out; omega⟩, hb⟩
              case measure => simp only [intOf]; omega
            · have hkp : 0 < k := by omega
              have hlt' : k - 1 < zs.length := by omega
              have hcm : wr.cell? ⟨b, off + (k - 1), none⟩ = some (.int .i64 zs[k - 1]) := by
                rw [← getD_lt hlt']
                exact (hb.cell (p := ⟨b, off + (k - 1), none⟩) (by simp; omega)).trans ((World.cell?_alloc_past _ _ _ hbl).trans (hc _ hlt'))
              clear hk0 hc
              by_cases hle : zs[k] ≤ zs[k - 1]
              · have hdl : decide (zs[k] ≤ zs[k - 1]) = true := by simpa using hle
                have HF := hide (vsB_false (n := n) (zs := zs) (fun h => by have := (h.2.2 k hlt).2 hkp; rw [getD_lt hlt, getD_lt hlt'] at this; omega))
                go_wp2_with (go_at_call 121; refine (isJudgment_any _ _ _ (by omega) (by omega)).mono ?_; rintro e w' ⟨rfl, rfl⟩)
                go_ret
                exact ⟨ret_bool HF.out.symm, (bel1 w _).trans (hb.mono (by omega))⟩
              · have hdl : decide (zs[k] ≤ zs[k - 1]) = false := by simpa using hle
                have HLE := hide hle
                clear hle
                go_wp2_with (go_at_call 121; refine (isJudgment_any _ _ _ (by omega) (by omega)).mono ?_; rintro e w' ⟨rfl, rfl⟩)
                go_roundw
                case rel => exact ⟨k + 1, by omega, by go_num, fun j hj => by
                  rcases Nat.lt_or_ge j k with h | h
                  · exact HA.out j h
                  · obtain rfl : j = k := by omega
                    unfold okAt
                    rw [getD_lt hlt, getD_lt hlt']
                    exact ⟨HR.out, fun _ => by have := HLE.out; omega⟩, hb⟩
                case measure => simp only [intOf]; omega
          · have hd2 : decide (0 ≤ zs[k] ∧ zs[k] ≤ pw n - 1) = false := by simpa using hr
            have HF := hide (vsB_false (n := n) (zs := zs) (fun h => hr (by have := (h.2.2 k hlt).1; rwa [getD_lt hlt] at this)))
            clear hr hc
            go_wp2_with (go_at_call 121; refine (isJudgment_any _ _ _ (by omega) (by omega)).mono ?_; rintro e w' ⟨rfl, rfl⟩)
            go_ret
            exact ⟨ret_bool HF.out.symm, (bel1 w _).trans (hb.mono (by omega))⟩
        · obtain rfl : k = zs.length := by omega
          go_wp2
          go_ret
          exact ⟨ret_bool (vsB_true ⟨⟨h1, h4⟩, hpos, HA.out⟩).symm, (bel1 w _).trans (hb.mono (by omega))⟩
  · have hd : decide (1 ≤ n ∧ n ≤ 4) = false := by simpa using h1
    have HF := hide (vsB_false (n := n) (zs := zs) (fun h => h1 h.1))
    clear h1
    go_enter Tryz.func99, Tryz.ntmps99
    go_wp2_with (go_at_call 120; refine (validIssues_any _ _).mono ?_; rintro e w' ⟨rfl, rfl⟩)
    go_ret
    exact ⟨ret_bool HF.out.symm, bel1 w _⟩
theorem inRange_yes (n l h : Int) (w : World) (hh : l ≤ n ∧ n ≤ h) : Calls Tryz.prog 30 #[.int .i64 n, .int .i64 l, .int .i64 h] w fun e w' => e = .returned (.bool true) ∧ w = w' :=
  (inRange_any n l h w).mono fun _ _ ⟨he, hw⟩ => ⟨by rw [he, decide_eq_true hh], hw⟩
theorem inRange_no (n l h : Int) (w : World) (hh : ¬ (l ≤ n ∧ n ≤ h)) : Calls Tryz.prog 30 #[.int .i64 n, .int .i64 l, .int .i64 h] w fun e w' => e = .returned (.bool false) ∧ w = w' :=
  (inRange_any n l h w).mono fun _ _ ⟨he, hw⟩ => ⟨by rw [he, decide_eq_false hh], hw⟩
theorem valid_of {n : Int} {zs : List Int} (h : vsB n zs = true) : Valid n zs := by simpa [vsB] using h
theorem valid_range {n : Int} {zs : List Int} (h : Valid n zs) : ∀ x ∈ zs, 0 ≤ x ∧ x ≤ 15 := by
  intro x hx
  obtain ⟨j, hj, rfl⟩ := List.getElem_of_mem hx
  have := (h.2.2 j hj).1
  rw [getD_lt hj] at this
  have := pw_le n h.1.2
  omega
end Go.Proofs.YtgebplpbnaeckaaGreatDoor

/- Mark: Marks: writing numbers into a slice that a call has made, and looking whether they are still there. -/
namespace Go.Proofs.YtgebplpbnaeckaaGreatDoor
open Go.RowKit Go.Joins

/-- the numbers k, k+1, .. -/
def marks (k : Int) (n : Nat) : List Int := (List.range n).map fun (i : Nat) => k + (i : Int)
theorem marks_length (k : Int) (n : Nat) : (marks k n).length = n := by simp [marks]
theorem marks_getD (k : Int) (n i : Nat) (h : i < n) : (marks k n).getD i 0 = k + (i : Int) := by
  simp [marks, List.getD_eq_getElem?_getD, h]

theorem gtrans {a b c : World} {row : Option Nat} (h : a.grownBy b row) (h' : b.grownBy c row) : a.grownBy c row :=
  ⟨h'.os.trans h.os, h'.tape.trans h.tape, h'.output.trans h.output, Nat.le_trans h.size h'.size, fun k hk hne => (h'.block k (Nat.lt_of_lt_of_le hk h.size) hne).trans (h.block k hk hne)⟩


/-- all of a list are the numbers k, k+1, .. -/
def heldV (zs : List Int) (k : Int) : Int := if zs = marks k zs.length then k + zs.length else -1



end Go.Proofs.YtgebplpbnaeckaaGreatDoor

/- Apt: An append to a slice that a call has made, told where the new one lies (as Apart, beside spaces). -/
namespace Go.Proofs.YtgebplpbnaeckaaGreatDoor
open Go.RowKit Go.Joins

def lenW : Value → Nat
  | .slice _ n _ => n
  | _ => 0
theorem owns_of_row {w : World} {B n : Nat} {v : Value} {zs : List Int} (h : w.ownsRow B 3 1 v n (zs.map (Value.int .i64))) (hz : zs.length = n) : Owns w B v zs := by
  subst hz; exact h
theorem row_of_owns {w : World} {B n : Nat} {v : Value} {zs : List Int} (h : Owns w B v zs) (hz : zs.length = n) : w.ownsRow B 3 1 v n (zs.map (Value.int .i64)) := by
  subst hz; exact h
theorem grown_weak {w w' : World} {row : Option Nat} (h : w.grownBy w' none) : w.grownBy w' row := ⟨h.os, h.tape, h.output, h.size, fun k hk _ => h.block k hk (by simp)⟩
theorem wpList_append_apart {P : Program} (w : World) {ops : Array Oper} {rest : List Oper} {o : Oper} {a : Act} {Q : Exit → Act → World → Prop} (hgd : o.guard = none) (s x : Operand) (t : TypeId)
    (ho : o.op = .call { callee := .builtin .append, args := #[s, x], argTypes := #[t, t] })
    (base : Nat) (e : TypeId) (i : TypeInfo) (z : Value) (size bytes : Nat) (ht : P.underlying t = some (.slice e)) (hi : P.info? e = some i) (hz : i.zero = some z)
    (hsize : i.size = size) (hby : i.bytes = bytes) (hzs : z.cells.size = size) (hsz : 0 < size)
    (v : Value) (n : Nat) (xs : List Value) (hs : a.eval s = v) (hown : w.ownsRow base e size v n xs)
    (ad : Addr) (m c : Nat) (news : List Value) (hx : a.eval x = .slice (some ad) m c) (hl : news.length = m * size) (hnews : ∀ j u, news[j]? = some u → w.cell? (ad.add j) = some u) (h1 : ∀ u ∈ news, u.oneCell' = true) (hm : 0 < m)
    (h63 : n + m ≤ maxLen) (hbytes : (n + m) * bytes ≤ 140737488355328) (hbase : base ≤ w.heap.size)
    (h : ∀ v' w', w'.ownsRow base e size v' (n + m) (xs ++ news) → w.grownBy w' v.ownBlock → (∀ g, g < w.heap.size → v.ownBlock ≠ some g → v'.ownBlock ≠ some g) → wpList P ops Q rest (a.put o.dst v') w') : wpList P ops Q (o :: rest) a w := by
  have new : ∀ v' (w' : World), w'.ownsRow w.heap.size e size v' (n + m) (xs ++ news) → w.grownBy w' none → wpList P ops Q rest (a.put o.dst v') w' := fun v' w' o1 g1 => by
    have hn : ∀ k, v'.ownBlock = some k → w.heap.size ≤ k := fun k hk => (World.ownsRow.lt o1 k hk).1
    refine h v' w' (ownsRow_le o1 hbase) (grown_weak g1) (fun g hg _ e' => by have := hn g e'; omega)
  have hlen : xs.length = n * size := hown.1
  rcases hown.2 with ⟨h0, h00⟩ | ⟨g, cap, cur, hv, hb, hh, k1, k2, k3, k4⟩
  · have hz0 : n = 0 := by simpa using h00
    exact wpList_append_grows w hgd s x t ho e i z size bytes ht hi hz hsize hby hzs hsz none n 0 xs (by rw [hs, h0, hz0]) (fun _ => ⟨hz0, rfl⟩) hlen (fun b e => by cases e) ad m c news hx hl hnews h1 (by omega) h63 hbytes fun v' w' o1 g1 => new v' w' o1 g1
  · subst hv
    by_cases hroom : n + m ≤ cap
    · exact wpList_append_fits w hgd s x t ho base e i size ht hi hsize g n cap xs hs hown ad m c news hx hl hnews h1 hroom fun w' o1 g1 => h _ w' o1 g1 (fun g' _ hne => hne)
    · exact wpList_append_grows w hgd s x t ho e i z size bytes ht hi hz hsize hby hzs hsz (some ⟨g, 0, none⟩) n cap xs hs (fun e => by cases e) hlen (fun b e j u hu => by
        cases e
        have hl := (List.getElem?_eq_some_iff.1 hu).1
        have e1 : (⟨g, 0, none⟩ : Addr).add j = ⟨g, j, none⟩ := by
          unfold Addr.add
          by_cases h : j = 0 <;> simp [h]
        rw [e1, hown.cellAt j (by omega)]
        exact hu) ad m c news hx hl hnews h1 (by omega) h63 hbytes fun v' w' o1 g1 => new v' w' o1 g1
end Go.Proofs.YtgebplpbnaeckaaGreatDoor

/- Bits: Go's bit operations on int at small numbers. Nothing of the program. -/
namespace Go.Proofs.YtgebplpbnaeckaaGreatDoor
open Go.RowKit

theorem ofInt_small (a : Nat) (ha : a < 9223372036854775808) : (BitVec.ofInt 64 (a : Int)).toNat = a := by
  rw [BitVec.ofInt_natCast, BitVec.toNat_ofNat]; exact Nat.mod_eq_of_lt (by omega)
theorem xor_small (a b : Nat) (ha : a < 16) (hb : b < 16) : bits .xor .i64 (a : Int) (b : Int) = ((a ^^^ b : Nat) : Int) := by
  have hx : a ^^^ b < 2 ^ 4 := Nat.xor_lt_two_pow (by omega) (by omega)
  show IntKind.i64.wrap ((BitVec.ofInt 64 (a : Int) ^^^ BitVec.ofInt 64 (b : Int)).toNat : Int) = _
  rw [BitVec.toNat_xor, ofInt_small a (by omega), ofInt_small b (by omega), IntKind.wrap_i64]
  omega
theorem and_small (a b : Nat) (ha : a < 16) (hb : b < 16) : bits .and .i64 (a : Int) (b : Int) = ((a &&& b : Nat) : Int) := by
  have hx : a &&& b < 2 ^ 4 := Nat.and_lt_two_pow _ (by omega)
  show IntKind.i64.wrap ((BitVec.ofInt 64 (a : Int) &&& BitVec.ofInt 64 (b : Int)).toNat : Int) = _
  rw [BitVec.toNat_and, ofInt_small a (by omega), ofInt_small b (by omega), IntKind.wrap_i64]
  omega
theorem or_small (a b : Nat) (ha : a < 16) (hb : b < 16) : bits .or .i64 (a : Int) (b : Int) = ((a ||| b : Nat) : Int) := by
  have hx : a ||| b < 2 ^ 4 := Nat.or_lt_two_pow (by omega) (by omega)
  show IntKind.i64.wrap ((BitVec.ofInt 64 (a : Int) ||| BitVec.ofInt 64 (b : Int)).toNat : Int) = _
  rw [BitVec.toNat_or, ofInt_small a (by omega), ofInt_small b (by omega), IntKind.wrap_i64]
  omega
theorem bv_andNot (B C : BitVec 64) : B &&& ~~~C = 0#64 ↔ B &&& C = B := by
  constructor
  · intro h
    apply BitVec.eq_of_getLsbD_eq
    intro i hi
    have := congrArg (fun v : BitVec 64 => v.getLsbD i) h
    simp [hi] at this ⊢
    exact this
  · intro h
    apply BitVec.eq_of_getLsbD_eq
    intro i hi
    have := congrArg (fun v : BitVec 64 => v.getLsbD i) h
    simp [hi] at this ⊢
    exact this
theorem wrap_zero (r : BitVec 64) : IntKind.i64.wrap (r.toNat : Int) = 0 ↔ r = 0#64 := by
  have hr := r.isLt
  rw [IntKind.wrap_i64]
  constructor
  · intro h
    apply BitVec.eq_of_toNat_eq
    simp
    omega
  · rintro rfl
    simp
/-- 'b &^ c == 0' says that b has no digit beside c's: so b is a number within c's. -/
theorem andNot_zero (b : Int) (c : Nat) (hb : (Lit.int .i64 b).wf = true) (hc : c < 16) : bits .andNot .i64 b (c : Int) = 0 ↔ (0 ≤ b ∧ b.toNat &&& c = b.toNat) := by
  have hbb := bounds_i64 hb
  show IntKind.i64.wrap ((BitVec.ofInt 64 b &&& ~~~BitVec.ofInt 64 (c : Int)).toNat : Int) = 0 ↔ _
  rw [wrap_zero, bv_andNot]
  have hC := ofInt_small c (by omega)
  constructor
  · intro h
    have h2 : (BitVec.ofInt 64 b).toNat &&& c = (BitVec.ofInt 64 b).toNat := by
      have := congrArg BitVec.toNat h
      rwa [BitVec.toNat_and, hC] at this
    have hle : (BitVec.ofInt 64 b).toNat ≤ c := by rw [← h2]; exact Nat.and_le_right
    have hto := BitVec.toNat_ofInt (n := 64) b
    have hb0 : 0 ≤ b := by omega
    have e : (BitVec.ofInt 64 b).toNat = b.toNat := by omega
    rw [e] at h2
    exact ⟨hb0, h2⟩
  · rintro ⟨h0, h⟩
    obtain ⟨b', rfl⟩ := Int.eq_ofNat_of_zero_le h0
    rw [Int.toNat_natCast] at h
    apply BitVec.eq_of_toNat_eq
    rw [BitVec.toNat_and, hC, ofInt_small b' (by omega), h]
/-- the judgment x has all answers of the part -/
def hpB (x c b : Int) : Bool := x.toNat &&& c.toNat == b.toNat
theorem hp_and {x c b : Int} (hx : 0 ≤ x ∧ x ≤ 15) (hc : 0 ≤ c ∧ c ≤ 15) (hb : 0 ≤ b) : (bits .and .i64 x c == b) = hpB x c b := by
  obtain ⟨x, rfl⟩ := Int.eq_ofNat_of_zero_le hx.1
  obtain ⟨c, rfl⟩ := Int.eq_ofNat_of_zero_le hc.1
  obtain ⟨b, rfl⟩ := Int.eq_ofNat_of_zero_le hb
  rw [and_small x c (by omega) (by omega)]
  unfold hpB
  rw [Bool.eq_iff_iff, beq_iff_eq, beq_iff_eq]
  simp only [Int.toNat_natCast]
  omega
end Go.Proofs.YtgebplpbnaeckaaGreatDoor
