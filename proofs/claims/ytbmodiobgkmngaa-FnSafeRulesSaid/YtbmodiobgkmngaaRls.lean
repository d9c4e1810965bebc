/- Lists of rules that a call has made, each with its own memory; the laws' comparison, marks and looks. -/
import Derived.Test.YtbmodiobgkmngaaRule
import Derived.Test.YtbmodiobgkmngaaSpLaw
import Derived.Test.YtbmodiobgkmngaaMark
import Derived.Deep.RegionHeld3
namespace Go.Proofs.Ytbmodiobgkmngaa
open Go.RowKit Go.Joins

/-- a rule as it lies: voters, numbers, their block and its room -/
abbrev RT := Int × List Int × Nat × Nat
def rflat (ts : List RT) : List Value := ts.flatMap fun t => [.int .i64 t.1, .slice (some ⟨t.2.2.1, 0, none⟩) t.2.1.length t.2.2.2]
theorem rflat_cons (t : RT) (ts : List RT) : rflat (t :: ts) = .int .i64 t.1 :: .slice (some ⟨t.2.2.1, 0, none⟩) t.2.1.length t.2.2.2 :: rflat ts := rfl
theorem rflat_app (ts us : List RT) : rflat (ts ++ us) = rflat ts ++ rflat us := by unfold rflat; rw [List.flatMap_append]
theorem rflat_len : ∀ ts : List RT, (rflat ts).length = ts.length * 2
  | [] => rfl
  | t :: ts => by rw [rflat_cons, List.length_cons, List.length_cons, rflat_len ts, List.length_cons]; omega
theorem rflat_get : ∀ (ts : List RT) (k : Nat) (h : k < ts.length), (rflat ts)[k * 2]? = some (.int .i64 ts[k].1) ∧ (rflat ts)[k * 2 + 1]? = some (.slice (some ⟨ts[k].2.2.1, 0, none⟩) ts[k].2.1.length ts[k].2.2.2)
  | [], k, h => by simp at h
  | t :: ts, 0, _ => ⟨rfl, rfl⟩
  | t :: ts, k + 1, h => by
    have := rflat_get ts k (by simpa using h)
    rw [rflat_cons, show (k + 1) * 2 = k * 2 + 1 + 1 from by omega]
    simpa using this
theorem rflat_setV : ∀ (ts : List RT) (k : Nat) (h : k < ts.length) (x : Int), (rflat ts).set (k * 2) (.int .i64 x) = rflat (ts.set k (x, ts[k].2))
  | [], k, h, x => by simp at h
  | t :: ts, 0, _, x => rfl
  | t :: ts, k + 1, h, x => by
    rw [rflat_cons, show (k + 1) * 2 = k * 2 + 1 + 1 from by omega, List.set_cons_succ, List.set_cons_succ, rflat_setV ts k (by simpa using h) x, List.set_cons_succ, rflat_cons]
    rfl
theorem rflat_setW : ∀ (ts : List RT) (k : Nat) (h : k < ts.length) (ws : List Int), ws.length = ts[k].2.1.length → rflat (ts.set k (ts[k].1, ws, ts[k].2.2)) = rflat ts
  | [], k, h, ws, _ => by simp at h
  | t :: ts, 0, _, ws, e => by
    show rflat ((t.1, ws, t.2.2) :: ts) = _
    rw [rflat_cons, rflat_cons]
    have e' : ws.length = t.2.1.length := e
    simp only [e']
  | t :: ts, k + 1, h, ws, e => by
    rw [List.set_cons_succ, rflat_cons, rflat_cons]
    have := rflat_setW ts k (by simpa using h) ws (by simpa using e)
    simp only [List.getElem_cons_succ]
    rw [this]
theorem rflat_one (ts : List RT) : ∀ u ∈ rflat ts, u.oneCell' = true := fun u hu => by
  unfold rflat at hu
  rw [List.mem_flatMap] at hu
  obtain ⟨t, _, h⟩ := hu
  simp only [List.mem_cons, List.not_mem_nil, or_false] at h
  rcases h with rfl | rfl <;> rfl
/-- what a list of rules says -/
def keys (ts : List RT) : List (Int × List Int) := ts.map fun t => (t.1, t.2.1)
/-- a list of rules that a call has made -/
def RL (w : World) (B : Nat) (vL : Value) (ts : List RT) : Prop :=
  w.ownsRow B 34 2 vL ts.length (rflat ts) ∧ ∀ t ∈ ts, Owns w B (.slice (some ⟨t.2.2.1, 0, none⟩) t.2.1.length t.2.2.2) t.2.1
theorem RL.other {w w' : World} {B : Nat} {vL : Value} {ts : List RT} {row : Option Nat} (h : RL w B vL ts) (hg : w.grownBy w' row) (hne : ∀ g, row = some g → g < B) : RL w' B vL ts := by
  refine ⟨World.ownsRow.kept h.1 hg ?_, fun t ht => (h.2 t ht).other hg hne⟩
  rcases hv : vL.ownBlock with _ | g
  · exact .inl rfl
  · right
    intro e
    have h1 := (h.1.lt g hv).1
    have h2 := hne g e.symm
    omega
theorem RL.below {w w' : World} {B : Nat} {vL : Value} {ts : List RT} (h : RL w B vL ts) (hb : Below w.heap.size w w') : RL w' B vL ts :=
  h.other (row := none) ⟨hb.os, hb.tape, hb.output, hb.size, fun k hk _ => hb.block k hk⟩ (fun g e => by cases e)
theorem RL.form {w : World} {B : Nat} {vL : Value} {ts : List RT} (h : RL w B vL ts) : ∃ a cap, vL = .slice a ts.length cap ∧ (0 < ts.length → ∃ g, a = some ⟨g, 0, none⟩ ∧ B ≤ g ∧ g < w.heap.size) := by
  rcases ownsRow_forms h.1 with ⟨rfl, h0⟩ | ⟨g, cap, rfl⟩
  · exact ⟨none, 0, by rw [h0], fun hz => by omega⟩
  · have hl := h.1.lt g rfl
    exact ⟨_, cap, rfl, fun hz => ⟨g, rfl, hl⟩⟩
theorem RL.at {w : World} {B g cap : Nat} {ts : List RT} (h : RL w B (.slice (some ⟨g, 0, none⟩) ts.length cap) ts) (k : Nat) (hk : k < ts.length) :
    w.cell? ⟨g, k * 2, none⟩ = some (.int .i64 ts[k].1) ∧ w.cell? ⟨g, k * 2 + 1, none⟩ = some (.slice (some ⟨ts[k].2.2.1, 0, none⟩) ts[k].2.1.length ts[k].2.2.2) ∧ Ints w (some ⟨ts[k].2.2.1, 0, none⟩) ts[k].2.1 := by
  obtain ⟨e1, e2⟩ := rflat_get ts k hk
  rw [h.1.cellAt (k * 2) (by omega), h.1.cellAt (k * 2 + 1) (by omega)]
  exact ⟨e1, e2, (h.2 _ (List.getElem_mem hk)).ints⟩
theorem RL.nil (w : World) (B : Nat) : RL w B (.slice none 0 0) [] := ⟨World.ownsRow_nil _ _ _ _, fun t ht => by cases ht⟩
theorem RL.le {w : World} {B B' : Nat} {vL : Value} {ts : List RT} (h : RL w B vL ts) (hb : B' ≤ B) : RL w B' vL ts := ⟨ownsRow_le h.1 hb, fun t ht => (h.2 t ht).le hb⟩
theorem info_rule : (Try.prog.info? 34).map (fun i => (i.zero, i.size, i.bytes)) = some (some (.agg #[.int .i64 0, .slice none 0 0]), 2, 32) := by kernel_rfl
/-- .. with no two rules in one block -/
def RO (w : World) (B : Nat) (vL : Value) (ts : List RT) : Prop :=
  RL w B vL ts ∧ (ts.map fun t => t.2.2.1).Nodup ∧ ∀ t ∈ ts, vL.ownBlock ≠ some t.2.2.1
theorem RO.below {w w' : World} {B : Nat} {vL : Value} {ts : List RT} (h : RO w B vL ts) (hb : Below w.heap.size w w') : RO w' B vL ts := ⟨h.1.below hb, h.2⟩
theorem RO.other {w w' : World} {B : Nat} {vL : Value} {ts : List RT} {row : Option Nat} (h : RO w B vL ts) (hg : w.grownBy w' row) (hne : ∀ g, row = some g → g < B) : RO w' B vL ts := ⟨h.1.other hg hne, h.2⟩
theorem RO.nil (w : World) (B : Nat) : RO w B (.slice none 0 0) [] := ⟨RL.nil w B, List.nodup_nil, fun t ht => by cases ht⟩
theorem blocks_set (ts : List RT) (k : Nat) (h : k < ts.length) (t' : RT) (e : t'.2.2.1 = ts[k].2.2.1) : (ts.set k t').map (fun t => t.2.2.1) = ts.map fun t => t.2.2.1 := by
  rw [List.map_set]
  refine List.ext_getElem (by simp) fun i h1 h2 => ?_
  rw [List.getElem_set]
  split
  · rename_i e'
    subst e'
    rw [e, List.getElem_map]
  · rfl
theorem mem_setR {ts : List RT} {k : Nat} {t t' : RT} (h : t ∈ ts.set k t') : t = t' ∨ ∃ i, ∃ hi : i < ts.length, i ≠ k ∧ ts[i] = t := by
  obtain ⟨i, hi, e⟩ := List.getElem_of_mem h
  rw [List.getElem_set] at e
  split at e
  · exact .inl e.symm
  · rename_i hne
    exact .inr ⟨i, by simpa using hi, fun e' => hne e'.symm, e⟩
theorem ne_block {ts : List RT} (hn : (ts.map fun t => t.2.2.1).Nodup) {i k : Nat} (hi : i < ts.length) (hk : k < ts.length) (hne : i ≠ k) : ts[i].2.2.1 ≠ ts[k].2.2.1 := by
  intro e
  have h1 := List.pairwise_iff_getElem.1 hn
  rcases Nat.lt_or_ge i k with h | h
  · exact h1 i k (by simpa using hi) (by simpa using hk) h (by simpa using e)
  · exact h1 k i (by simpa using hk) (by simpa using hi) (by omega) (by simpa using e.symm)
theorem RO.setV {w : World} {B g cap : Nat} {ts : List RT} (h : RO w B (.slice (some ⟨g, 0, none⟩) ts.length cap) ts) (k : Nat) (hk : k < ts.length) (x : Int) :
    RO (w.setCell ⟨g, k * 2, none⟩ (.int .i64 x)) B (.slice (some ⟨g, 0, none⟩) ts.length cap) (ts.set k (x, ts[k].2)) ∧ w.grownBy (w.setCell ⟨g, k * 2, none⟩ (.int .i64 x)) (some g) := by
  obtain ⟨h1, hg⟩ := h.1.1.stored (k * 2) (.int .i64 x)
  have hne : ∀ t ∈ ts, g ≠ t.2.2.1 := fun t ht e => h.2.2 t ht (by rw [← e]; rfl)
  have hkeep : ∀ t ∈ ts, Owns (w.setCell ⟨g, k * 2, none⟩ (.int .i64 x)) B (.slice (some ⟨t.2.2.1, 0, none⟩) t.2.1.length t.2.2.2) t.2.1 := fun t ht =>
    own_kept (h.1.2 t ht) hg fun j e e' => by
      cases e
      have : t.2.2.1 = g := by simpa [Value.ownBlock] using e'
      exact hne t ht this.symm
  refine ⟨⟨⟨?_, fun t ht => ?_⟩, ?_, fun t ht => ?_⟩, hg⟩
  · rw [rflat_setV ts k hk x] at h1
    rw [List.length_set]
    exact h1
  · rcases mem_setR ht with rfl | ⟨i, hi, _, rfl⟩
    · exact hkeep ts[k] (List.getElem_mem hk)
    · exact hkeep _ (List.getElem_mem hi)
  · rw [blocks_set ts k hk (x, ts[k].2) rfl]; exact h.2.1
  · rcases mem_setR ht with rfl | ⟨i, hi, _, rfl⟩
    · exact h.2.2 ts[k] (List.getElem_mem hk)
    · exact h.2.2 _ (List.getElem_mem hi)
theorem RO.setW {w w' : World} {B : Nat} {vL : Value} {ts : List RT} (h : RO w B vL ts) (k : Nat) (hk : k < ts.length) (ws : List Int) (hl : ws.length = ts[k].2.1.length)
    (hg : w.grownBy w' (some ts[k].2.2.1)) (ho : Owns w' B (.slice (some ⟨ts[k].2.2.1, 0, none⟩) ts[k].2.1.length ts[k].2.2.2) ws) : RO w' B vL (ts.set k (ts[k].1, ws, ts[k].2.2)) := by
  refine ⟨⟨?_, fun t ht => ?_⟩, ?_, fun t ht => ?_⟩
  · rw [rflat_setW ts k hk ws hl, List.length_set]
    refine World.ownsRow.kept h.1.1 hg (.inr fun e => h.2.2 _ (List.getElem_mem hk) e)
  · rcases mem_setR ht with rfl | ⟨i, hi, hne, rfl⟩
    · show Owns w' B (.slice (some ⟨ts[k].2.2.1, 0, none⟩) ws.length ts[k].2.2.2) ws
      rw [hl]; exact ho
    · exact own_kept (h.1.2 _ (List.getElem_mem hi)) hg fun j e e' => by
        cases e
        have : ts[i].2.2.1 = ts[k].2.2.1 := by simpa [Value.ownBlock] using e'
        exact ne_block h.2.1 hi hk hne this
  · rw [blocks_set ts k hk (ts[k].1, ws, ts[k].2.2) rfl]; exact h.2.1
  · rcases mem_setR ht with rfl | ⟨i, hi, _, rfl⟩
    · exact h.2.2 ts[k] (List.getElem_mem hk)
    · exact h.2.2 _ (List.getElem_mem hi)

/-! ### marks -/
def sizeT (ts : List RT) : Nat := (ts.map fun t => t.2.1.length + 1).sum
/-- the first i rules marked from k on -/
def mkT (k : Int) (ts : List RT) (i : Nat) : List RT := (List.range ts.length).map fun j => if j < i then (k + (sizeT (ts.take j) : Nat), marks (k + (sizeT (ts.take j) : Nat) + 1) (ts.getD j default).2.1.length, (ts.getD j default).2.2) else ts.getD j default
theorem mkT_len (k : Int) (ts : List RT) (i : Nat) : (mkT k ts i).length = ts.length := by unfold mkT; simp
theorem getD_rt {ts : List RT} {j : Nat} (h : j < ts.length) : ts.getD j default = ts[j] := by rw [List.getD_eq_getElem?_getD, List.getElem?_eq_getElem h]; rfl
theorem mkT_at {k : Int} {ts : List RT} {i j : Nat} (h : j < ts.length) : (mkT k ts i)[j]'(by rw [mkT_len]; exact h) = if j < i then (k + (sizeT (ts.take j) : Nat), marks (k + (sizeT (ts.take j) : Nat) + 1) ts[j].2.1.length, ts[j].2.2) else ts[j] := by
  unfold mkT
  rw [List.getElem_map, List.getElem_range, getD_rt h]
theorem mkT_zero (k : Int) (ts : List RT) : mkT k ts 0 = ts := by
  refine List.ext_getElem (mkT_len k ts 0) fun i h1 h2 => ?_
  rw [mkT_at h2, if_neg (by omega)]
theorem mkT_succ {k : Int} {ts : List RT} {i : Nat} (h : i < ts.length) : (mkT k ts i).set i (k + (sizeT (ts.take i) : Nat), marks (k + (sizeT (ts.take i) : Nat) + 1) ts[i].2.1.length, ts[i].2.2) = mkT k ts (i + 1) := by
  refine List.ext_getElem (by rw [List.length_set, mkT_len, mkT_len]) fun j h1 h2 => ?_
  rw [mkT_len] at h2
  rw [List.getElem_set, mkT_at h2]
  split
  · rename_i e
    subst e
    rw [mkT_at h2, if_pos (by omega)]
  · rename_i e
    rw [mkT_at h2]
    by_cases hj : j < i
    · rw [if_pos hj, if_pos (by omega)]
    · rw [if_neg hj, if_neg (by omega)]
theorem sizeT_take {ts : List RT} {i : Nat} (h : i < ts.length) : sizeT (ts.take (i + 1)) = sizeT (ts.take i) + (ts[i].2.1.length + 1) := by
  unfold sizeT
  rw [List.take_succ_eq_append_getElem h, List.map_append, List.sum_append]
  simp
theorem sizeT_all (ts : List RT) : sizeT (ts.take ts.length) = sizeT ts := by rw [List.take_length]
theorem sizeT_le {ts : List RT} {m : Nat} (h : ∀ t ∈ ts, t.2.1.length ≤ m) : sizeT ts ≤ ts.length * (m + 1) := by
  induction ts with
  | nil => simp [sizeT]
  | cons t ts ih =>
    have h1 := ih fun u hu => h u (by simp [hu])
    have h2 := h t (by simp)
    have e : sizeT (t :: ts) = (t.2.1.length + 1) + sizeT ts := by simp [sizeT]
    rw [e, List.length_cons, Nat.succ_mul]
    omega
theorem size_take_le {ts : List RT} {m i : Nat} (h : ∀ t ∈ ts, t.2.1.length ≤ m) : sizeT (ts.take i) ≤ ts.length * (m + 1) := by
  refine Nat.le_trans (sizeT_le fun t ht => h t (List.mem_of_mem_take ht)) (Nat.mul_le_mul_right _ ?_)
  rw [List.length_take]; omega
end Go.Proofs.Ytbmodiobgkmngaa
