/- Texts of this seat one behind the other: MapB, MapK, MapL, MapI, MapV, OpenB, CrM, Open, CrD, CrS, CrO, CrP, PtS, CrI, LdM, LdB, LdC, LdI, BkM, BkI. Conditions: none. -/
import Derived.Test.YtbmodiobgkmngaaBase
import Derived.Test.YtbmodiobgkmngaaBits
import Derived.Test.YtbmodiobgkmngaaHas
import Derived.Test.YtbmodiobgkmngaaBit
import Derived.Test.YtbmodiobgkmngaaPart
import Derived.Test.YtbmodiobgkmngaaMark
import Derived.Test.YtbmodiobgkmngaaOwnP
import Derived.Test.YtbmodiobgkmngaaGap
import Derived.Test.YtbmodiobgkmngaaValid
import Derived.Test.YtbmodiobgkmngaaListLaw
import Derived.Maps.Own
import Derived.Maps.OwnSet
import Derived.DeepKeys4
import Derived.Maps.Keyed
import Derived.Maps.Views
import Derived.Maps.RangeWalk
import Derived.Deep.RegionHeld3
import Derived.Deep.QuietTactic
import Derived.BigQuiet
import Derived.Deep.RegionWith

/- MapB: Maps of bools of the call's own: looking up. -/
namespace Go.Proofs.Ytbmodiobgkmngaa
open Go Go.ChangeMaps Go.MapKept Go.WideShapes
open Go.Maps (Keyed)

theorem plainElem_bool_inv {H : Type} {P : Program} {e : TypeId} (he : P.underlying e = some .bool) {v : Value} {z : DataW H × List MemPlace} (h : plainElem P e v = some z) : ∃ x, v = .bool x ∧ z = (.lit (.bool x), []) := by
  unfold plainElem at h
  rw [he] at h
  cases v <;> simp at h
  rename_i x
  exact ⟨x, rfl, h.symm⟩
theorem lookup_bool {H : Type} {P : Program} {w : World} {k t e : TypeId} {b n : Nat} {D : DataW H} (h : w.ownsMap P k (plainElem P e) b n D) (K : Keyed P k) (ht : P.underlying t = some (.map k e)) (he : P.underlying e = some .bool) (hz : (zeroValue e).run P w = .ok (.bool false) w)
    {key : Value} {kl : Lit} (hkey : keyOf P k key = some kl) : ∃ x, (Instr.lookup t (.map (some b)) key false).run P w = .ok (.bool x) w ∧ D.atKey kl (.lit (.bool false)) = .lit (.bool x) := by
  obtain ⟨v, ps, hrun, hv⟩ := h.lookup K ht hz (plainElem_bool he false) hkey
  obtain ⟨x, rfl, hx⟩ := plainElem_bool_inv he hv
  simp only [Prod.mk.injEq] at hx
  exact ⟨x, hrun, hx.1⟩
end Go.Proofs.Ytbmodiobgkmngaa

/- MapK: A part as a map's key. -/
namespace Go.Proofs.Ytbmodiobgkmngaa
open Go

/-- how a part stands as a key -/
def litP (c b : Int) : Lit := .string (keyBytes [.int .i64 c, .int .i64 b])
theorem part_cells : Try.prog.cellsOf 79 = 2 := by kernel_rfl
theorem int_cells : Try.prog.cellsOf 3 = 1 := by kernel_rfl
theorem part_keyType : Try.prog.keyType 79 = true := by kernel_rfl
set_option maxRecDepth 20000 in
theorem part_key (c b : Int) (hc : (Lit.int .i64 c).wf = true) (hb : (Lit.int .i64 b).wf = true) : keyOf Try.prog 79 (.agg #[.int .i64 c, .int .i64 b]) = some (litP c b) := by
  unfold keyOf
  rw [Try.underlying79]
  simp only [part_keyType, Bool.true_and]
  have hf : (Value.agg #[.int .i64 c, .int .i64 b]).formed Try.prog 79 = true := by simp [Value.formed, Try.underlying79, part_cells]
  rw [if_pos hf]
  have hl : Try.prog.keyLits (Try.prog.types.size + 1) 79 (Value.agg #[.int .i64 c, .int .i64 b]).cells.toList = some [.int .i64 c, .int .i64 b] := by
    have h0 : 0 < Try.prog.types.size := of_decide_eq_true (by kernel_rfl)
    obtain ⟨d, hd⟩ : ∃ d, Try.prog.types.size = d + 1 := ⟨Try.prog.types.size - 1, by omega⟩
    have hk : ∀ x : Int, (Lit.int .i64 x).wf = true → Try.prog.keyLits (d + 1) 3 [.int .i64 x] = some [.int .i64 x] := fun x hx => by
      unfold Program.keyLits
      rw [Try.underlying3]
      simp only [hx, and_self, if_true]
    rw [hd]
    unfold Program.keyLits
    rw [Try.underlying79]
    have e : (Value.agg #[.int .i64 c, .int .i64 b]).cells.toList = [.int .i64 c, .int .i64 b] := rfl
    rw [e]
    simp [part_cells, int_cells, List.mapM_cons, hk c hc, hk b hb]
  rw [hl]
  rfl
end Go.Proofs.Ytbmodiobgkmngaa

/- MapL: Maps with parts as keys: the keys' law. -/
namespace Go.Proofs.Ytbmodiobgkmngaa
open Go Go.ChangeMaps Go.MapKept Go.WideShapes Go.WideAt
open Go.Maps (Keyed)

theorem map_laid : laidOutB Try.prog = true := by kernel_rfl
theorem part_row : (79 : TypeId) < Try.prog.types.size := of_decide_eq_true (by kernel_rfl)
theorem part_wide : (match Try.prog.underlying 79 with | some (.array _ _) | some (.struct _) => true | _ => false) = true := by kernel_rfl
set_option maxRecDepth 100000 in
theorem part_keyed : Keyed Try.prog 79 := Keyed.of_law (deep_law_laid map_laid (m := 2) (by omega) part_row (by kernel_rfl) part_wide)
end Go.Proofs.Ytbmodiobgkmngaa

/- MapI: Parts as keys: told apart. -/
namespace Go.Proofs.Ytbmodiobgkmngaa
open Go

theorem wf_16 (c : Nat) (h : c < 16) : (Lit.int .i64 (c : Int)).wf = true := by
  simp [Lit.wf, IntKind.min, IntKind.max, IntKind.bits, IntKind.signed]
  omega
theorem litP_inj {c b c' b' : Int} (hc : (Lit.int .i64 c).wf = true) (hb : (Lit.int .i64 b).wf = true) (hc' : (Lit.int .i64 c').wf = true) (hb' : (Lit.int .i64 b').wf = true) (h : litP c b = litP c' b') : c = c' ∧ b = b' := by
  have e := part_keyed.inj (part_key c b hc hb) (by rw [h]; exact part_key c' b' hc' hb')
  simp only [Value.agg.injEq, Array.mk.injEq, List.cons.injEq, Value.int.injEq, and_true, true_and] at e
  exact e
theorem litP_ne {p q : Nat × Nat} (hp1 : p.1 < 16) (hp2 : p.2 < 16) (hq1 : q.1 < 16) (hq2 : q.2 < 16) (h : p ≠ q) : litP (p.1 : Int) (p.2 : Int) ≠ litP (q.1 : Int) (q.2 : Int) := fun e => by
  obtain ⟨e1, e2⟩ := litP_inj (wf_16 _ hp1) (wf_16 _ hp2) (wf_16 _ hq1) (wf_16 _ hq2) e
  exact h (Prod.ext (by omega) (by omega))
/-- what a map from parts says, of parts below 16 -/
def MapIs {H : Type} (D : DataW H) (f : Nat × Nat → Bool) : Prop := Maps.IsMap D ∧ ∀ p : Nat × Nat, p.1 < 16 → p.2 < 16 → D.atKey (litP (p.1 : Int) (p.2 : Int)) (.lit (.bool false)) = .lit (.bool (f p))
theorem litP_key (c b : Int) : WideAt.IsKeyLit (litP c b) := by unfold litP; trivial
theorem MapIs.put {H : Type} {D : DataW H} {f : Nat × Nat → Bool} (h : MapIs D f) {q : Nat × Nat} (hq1 : q.1 < 16) (hq2 : q.2 < 16) (r : Bool) :
    MapIs (D.put (litP (q.1 : Int) (q.2 : Int)) (.lit (.bool r))) (fun p => if p = q then r else f p) := by
  refine ⟨h.1.put _ _, fun p hp1 hp2 => ?_⟩
  show _ = DataW.lit (Lit.bool (if p = q then r else f p))
  by_cases e : p = q
  · subst e
    rw [Maps.atKey_put_same h.1 (litP_key _ _), if_pos rfl]
  · rw [Maps.atKey_put_other (litP_ne hp1 hp2 hq1 hq2 e), if_neg e]
    exact h.2 p hp1 hp2
theorem MapIs.del {H : Type} {D : DataW H} {f : Nat × Nat → Bool} (h : MapIs D f) {q : Nat × Nat} (hq1 : q.1 < 16) (hq2 : q.2 < 16) :
    MapIs (D.del (litP (q.1 : Int) (q.2 : Int))) (fun p => if p = q then false else f p) := by
  refine ⟨h.1.del _, fun p hp1 hp2 => ?_⟩
  show _ = DataW.lit (Lit.bool (if p = q then false else f p))
  by_cases e : p = q
  · subst e
    rw [Maps.atKey_del_same, if_pos rfl]
  · rw [Maps.atKey_del_other (litP_ne hp1 hp2 hq1 hq2 e), if_neg e]
    exact h.2 p hp1 hp2
theorem MapIs.empty {H : Type} : MapIs (.map [] : DataW H) (fun _ => false) := ⟨Maps.isMap_empty, fun _ _ _ => rfl⟩
end Go.Proofs.Ytbmodiobgkmngaa

/- MapV: A key of a map from parts is a part. -/
namespace Go.Proofs.Ytbmodiobgkmngaa
open Go

set_option maxRecDepth 20000 in
theorem int_lits_inv {d : Nat} {x : Value} {l : List Lit} (h : Try.prog.keyLits (d + 1) 3 [x] = some l) : ∃ n : Int, x = .int .i64 n ∧ (Lit.int .i64 n).wf = true ∧ l = [.int .i64 n] := by
  unfold Program.keyLits at h
  rw [Try.underlying3] at h
  cases x with
  | int q n =>
    simp only at h
    split at h
    · rename_i hc
      obtain ⟨rfl, hw⟩ := hc
      cases h
      exact ⟨n, rfl, hw, rfl⟩
    · cases h
  | _ => simp at h
set_option maxRecDepth 20000 in
theorem part_key_inv {key : Value} {kl : Lit} (h : keyOf Try.prog 79 key = some kl) : ∃ c b : Int, key = .agg #[.int .i64 c, .int .i64 b] ∧ (Lit.int .i64 c).wf = true ∧ (Lit.int .i64 b).wf = true ∧ kl = litP c b := by
  unfold keyOf at h
  rw [Try.underlying79] at h
  simp only [part_keyType, Bool.true_and] at h
  by_cases hf : key.formed Try.prog 79 = true
  · rw [if_pos hf] at h
    have hs : ∃ x y, key = .agg #[x, y] := by
      cases key <;> simp [Value.formed, Try.underlying79, part_cells] at hf
      rename_i cs
      obtain ⟨l⟩ := cs
      match l, hf with
      | [x, y], _ => exact ⟨x, y, rfl⟩
    obtain ⟨x, y, rfl⟩ := hs
    have h0 : 0 < Try.prog.types.size := of_decide_eq_true (by kernel_rfl)
    obtain ⟨d, hd⟩ : ∃ d, Try.prog.types.size = d + 1 := ⟨Try.prog.types.size - 1, by omega⟩
    have e : (Value.agg #[x, y]).cells.toList = [x, y] := rfl
    rw [hd, e] at h
    unfold Program.keyLits at h
    rw [Try.underlying79] at h
    cases hx : Try.prog.keyLits (d + 1) 3 [x] with
    | none => simp [part_cells, int_cells, List.mapM_cons, hx] at h
    | some l1 =>
      cases hy : Try.prog.keyLits (d + 1) 3 [y] with
      | none => simp [part_cells, int_cells, List.mapM_cons, hx, hy] at h
      | some l2 =>
        simp [part_cells, int_cells, List.mapM_cons, hx, hy] at h
        obtain ⟨c, rfl, wc, rfl⟩ := int_lits_inv hx
        obtain ⟨b, rfl, wb, rfl⟩ := int_lits_inv hy
        exact ⟨c, b, rfl, wc, wb, h.symm⟩
  · rw [if_neg hf] at h
    cases h
end Go.Proofs.Ytbmodiobgkmngaa

/- OpenB: Whether a judgment has all answers of a part: plain mathematics. -/
namespace Go.Proofs.Ytbmodiobgkmngaa
open Go.RowKit Go.Joins

def openB (zs : List Int) (c b : Int) : Bool := zs.any fun x => hpB x c b
theorem openB_true {zs : List Int} {c b : Int} {k : Nat} (hk : k < zs.length) (h : hpB zs[k] c b = true) : openB zs c b = true := by
  unfold openB; rw [List.any_eq_true]; exact ⟨zs[k], mem_of_at hk, h⟩
theorem openB_false {zs : List Int} {c b : Int} (h : ∀ j, j < zs.length → hpB (zs.getD j 0) c b = false) : openB zs c b = false := by
  unfold openB; rw [List.any_eq_false]
  intro x hx
  obtain ⟨j, hj, rfl⟩ := List.getElem_of_mem hx
  have := h j hj
  rw [getD_lt hj] at this
  simp [this]
end Go.Proofs.Ytbmodiobgkmngaa

/- CrM: Critical parts: plain mathematics; nothing of the program. -/
namespace Go.Proofs.Ytbmodiobgkmngaa
open Go.RowKit Go.Joins

/-- all parts of judgments about n issues, by the number of issues, then by the issues, then by the answers -/
def ordC (s c : Nat) : List (Nat × Nat) := if wt c = s then ((List.range (c + 1)).filter fun b => b &&& c == b).map fun b => (c, b) else []
def ordS (n s : Nat) : List (Nat × Nat) := (List.range (2 ^ n)).flatMap (ordC s)
def ordL (n : Nat) : List (Nat × Nat) := (List.range (n + 1)).flatMap (ordS n)
/-- whether the part m is a part of q -/
def subP (m q : Nat × Nat) : Bool := (m.1 &&& q.1 == m.1) && (q.2 &&& m.1 == m.2)
def opn (zs : List Int) (p : Nat × Nat) : Bool := openB zs (p.1 : Int) (p.2 : Int)
/-- a part without the answer to an issue -/
def lessP (j : Nat) (p : Nat × Nat) : Nat × Nat := (p.1 - 2 ^ j, p.2 - (p.2 &&& 2 ^ j))
/-- whether a part is critical -/
def crB (n : Nat) (zs : List Int) (p : Nat × Nat) : Bool := !opn zs p && (List.range n).all fun j => bitN p.1 j == 0 || opn zs (lessP j p)
/-- the critical parts -/
def critL (n : Nat) (zs : List Int) : List (Nat × Nat) := (ordL n).filter (crB n zs)

theorem subP_iff {m q : Nat × Nat} : subP m q = true ↔ m.1 &&& q.1 = m.1 ∧ q.2 &&& m.1 = m.2 := by
  unfold subP; rw [Bool.and_eq_true, beq_iff_eq, beq_iff_eq]
theorem hp_nat (x : Int) (c b : Nat) : hpB x (c : Int) (b : Int) = (x.toNat &&& c == b) := by
  unfold hpB; rw [Int.toNat_natCast, Int.toNat_natCast]
theorem opn_iff {zs : List Int} {p : Nat × Nat} : opn zs p = true ↔ ∃ x ∈ zs, x.toNat &&& p.1 = p.2 := by
  unfold opn openB
  rw [List.any_eq_true]
  simp only [hp_nat, beq_iff_eq]
theorem opn_sub {zs : List Int} {m q : Nat × Nat} (h : subP m q = true) (ho : opn zs q = true) : opn zs m = true := by
  rw [subP_iff] at h
  rw [opn_iff] at ho ⊢
  obtain ⟨x, hx, e⟩ := ho
  refine ⟨x, hx, ?_⟩
  rw [← h.2, ← e, Nat.and_assoc, Nat.and_comm q.1 m.1, h.1]
theorem subP_trans {a b c : Nat × Nat} (h1 : subP a b = true) (h2 : subP b c = true) : subP a c = true := by
  rw [subP_iff] at *
  refine ⟨?_, ?_⟩
  · rw [← h1.1, Nat.and_assoc, h2.1]
  · rw [← h1.2, ← h2.2, Nat.and_assoc, Nat.and_comm b.1 a.1, h1.1]
def range5 (p : Nat → Bool) : Bool := p 0 && p 1 && p 2 && p 3 && p 4
theorem range5_of {p : Nat → Bool} (h : range5 p = true) {n : Nat} (hn : n ≤ 4) : p n = true := by
  unfold range5 at h
  simp only [Bool.and_eq_true] at h
  obtain ⟨⟨⟨⟨h0, h1⟩, h2⟩, h3⟩, h4⟩ := h
  rcases (show n = 0 ∨ n = 1 ∨ n = 2 ∨ n = 3 ∨ n = 4 from by omega) with rfl | rfl | rfl | rfl | rfl <;> assumption
set_option maxRecDepth 100000 in
theorem ord_chk : range5 (fun n => (ordL n).all fun p => decide (p.1 < 2 ^ n) && (p.2 &&& p.1 == p.2) && subP p p && (List.range n).all fun j => bitN p.1 j == 0 || ((ordL n).contains (lessP j p) && decide (wt (lessP j p).1 < wt p.1) && subP (lessP j p) p && (lessP j p != p))) = true := by decide +kernel
set_option maxRecDepth 100000 in
theorem sub_chk : range5 (fun n => (ordL n).all fun p => (ordL n).all fun m => !subP m p || m == p || (decide (wt m.1 < wt p.1) && (List.range n).any fun j => bitN p.1 j == 1 && subP m (lessP j p))) = true := by decide +kernel
set_option maxRecDepth 100000 in
theorem ord_sorted : range5 (fun n => decide ((ordL n).Pairwise fun p q => wt p.1 ≤ wt q.1)) = true := by decide +kernel
set_option maxRecDepth 100000 in
theorem ord_nodup : range5 (fun n => decide ((ordL n).Nodup)) = true := by decide +kernel
theorem ord_facts {n : Nat} (hn : n ≤ 4) {p : Nat × Nat} (hp : p ∈ ordL n) : p.1 < 2 ^ n ∧ p.2 &&& p.1 = p.2 ∧ subP p p = true ∧ ∀ j, j < n → bitN p.1 j = 1 → lessP j p ∈ ordL n ∧ wt (lessP j p).1 < wt p.1 ∧ subP (lessP j p) p = true ∧ lessP j p ≠ p := by
  have h := range5_of ord_chk hn
  rw [List.all_eq_true] at h
  have h1 := h p hp
  simp only [Bool.and_eq_true, decide_eq_true_eq, beq_iff_eq] at h1
  obtain ⟨⟨⟨a, b⟩, c⟩, d⟩ := h1
  refine ⟨a, b, c, fun j hj hb => ?_⟩
  rw [List.all_eq_true] at d
  have h2 := d j (List.mem_range.2 hj)
  rw [hb] at h2
  simp only [Bool.or_eq_true, Bool.and_eq_true, decide_eq_true_eq, List.contains_iff_mem, bne_iff_ne] at h2
  rcases h2 with h2 | ⟨⟨⟨h3, h4⟩, h5⟩, h6⟩
  · simp at h2
  · exact ⟨h3, h4, h5, h6⟩
theorem sub_facts {n : Nat} (hn : n ≤ 4) {p m : Nat × Nat} (hp : p ∈ ordL n) (hm : m ∈ ordL n) (hs : subP m p = true) (hne : m ≠ p) : wt m.1 < wt p.1 ∧ ∃ j, j < n ∧ bitN p.1 j = 1 ∧ subP m (lessP j p) = true := by
  have h := range5_of sub_chk hn
  rw [List.all_eq_true] at h
  have h1 := h p hp
  rw [List.all_eq_true] at h1
  have h2 := h1 m hm
  rw [hs] at h2
  simp only [Bool.not_true, Bool.false_or, Bool.or_eq_true, Bool.and_eq_true, beq_iff_eq, decide_eq_true_eq, List.any_eq_true, List.mem_range] at h2
  rcases h2 with h2 | ⟨h3, j, h4, h5, h6⟩
  · exact absurd h2 hne
  · exact ⟨h3, j, h4, h5, h6⟩
theorem cr_iff {n : Nat} {zs : List Int} {p : Nat × Nat} : crB n zs p = true ↔ opn zs p = false ∧ ∀ j, j < n → bitN p.1 j = 1 → opn zs (lessP j p) = true := by
  unfold crB
  rw [Bool.and_eq_true, Bool.not_eq_true', List.all_eq_true]
  constructor
  · rintro ⟨h1, h2⟩
    refine ⟨h1, fun j hj hb => ?_⟩
    have h3 := h2 j (List.mem_range.2 hj)
    rw [hb] at h3
    simpa using h3
  · rintro ⟨h1, h2⟩
    refine ⟨h1, fun j hj => ?_⟩
    rw [List.mem_range] at hj
    have hle := bitN_le p.1 j
    rcases (show bitN p.1 j = 0 ∨ bitN p.1 j = 1 from by omega) with e | e
    · rw [e]; rfl
    · rw [h2 j hj e, Bool.or_true]
/-- what is closed has a critical part -/
theorem cr_ex {n : Nat} (hn : n ≤ 4) (zs : List Int) : ∀ (k : Nat) (p : Nat × Nat), p ∈ ordL n → wt p.1 ≤ k → opn zs p = false → ∃ m ∈ ordL n, crB n zs m = true ∧ subP m p = true
  | k, p, hp, hk, ho => by
    have hf := ord_facts hn hp
    by_cases hc : crB n zs p = true
    · exact ⟨p, hp, hc, hf.2.2.1⟩
    · have hx : ∃ j, j < n ∧ bitN p.1 j = 1 ∧ opn zs (lessP j p) = false := by
        refine Classical.byContradiction fun hno => hc ?_
        rw [cr_iff]
        refine ⟨ho, fun j hj hb => ?_⟩
        rcases Bool.eq_false_or_eq_true (opn zs (lessP j p)) with h | h
        · exact h
        · exact absurd ⟨j, hj, hb, h⟩ hno
      obtain ⟨j, hj, hb, hlo⟩ := hx
      obtain ⟨h1, h2, h3, _⟩ := hf.2.2.2 j hj hb
      match k, hk with
      | 0, hk => omega
      | k + 1, hk =>
        obtain ⟨m, hm, hcm, hsm⟩ := cr_ex hn zs k (lessP j p) h1 (by omega) hlo
        exact ⟨m, hm, hcm, subP_trans hsm h3⟩
/-- a critical part has no other one that is closed -/
theorem cr_least {n : Nat} (hn : n ≤ 4) {zs : List Int} {p m : Nat × Nat} (hp : p ∈ ordL n) (hm : m ∈ ordL n) (hc : crB n zs p = true) (ho : opn zs m = false) (hs : subP m p = true) : m = p := by
  refine Classical.byContradiction fun hne => ?_
  obtain ⟨_, j, hj, hb, h1⟩ := sub_facts hn hp hm hs hne
  have h2 := (cr_iff.1 hc).2 j hj hb
  rw [opn_sub h1 h2] at ho
  cases ho
/-- whether a part is still there when the first k have had their turns -/
def stillB (n : Nat) (zs : List Int) (k : Nat) (q : Nat × Nat) : Bool := (ordL n).contains q && !opn zs q && ((ordL n).take k).all fun m => !(crB n zs m && subP m q) || m == q
theorem still_turn {n : Nat} (hn : n ≤ 4) {zs : List Int} {k : Nat} (hk : k < (ordL n).length) : stillB n zs k (ordL n)[k] = crB n zs (ordL n)[k] := by
  have hp : (ordL n)[k] ∈ ordL n := List.getElem_mem hk
  obtain ⟨p, hpe⟩ : ∃ p, p = (ordL n)[k] := ⟨_, rfl⟩
  rw [← hpe] at hp ⊢
  rw [Bool.eq_iff_iff]
  unfold stillB
  rw [Bool.and_eq_true, Bool.and_eq_true, Bool.not_eq_true', List.contains_iff_mem, List.all_eq_true]
  constructor
  · rintro ⟨⟨_, ho⟩, hall⟩
    obtain ⟨m, hm, hcm, hsm⟩ := cr_ex hn zs (wt p.1) p hp (Nat.le_refl _) ho
    by_cases e : m = p
    · rw [← e]; exact hcm
    · exfalso
      have hwt := (sub_facts hn hp hm hsm e).1
      obtain ⟨i, hi, hie⟩ := List.getElem_of_mem hm
      have hik : i < k := by
        rcases Nat.lt_trichotomy i k with h | h | h
        · exact h
        · exfalso; subst h; rw [hpe] at e; exact e hie.symm
        · exfalso
          have hs := range5_of ord_sorted hn
          rw [decide_eq_true_eq, List.pairwise_iff_getElem] at hs
          have := hs k i hk hi h
          rw [hie, ← hpe] at this
          omega
      have hmt : m ∈ (ordL n).take k := by
        rw [← hie]
        exact List.mem_take_iff_getElem.2 ⟨i, by omega, rfl⟩
      have := hall m hmt
      rw [hcm, hsm] at this
      simp only [Bool.and_self, Bool.not_true, Bool.false_or, beq_iff_eq] at this
      exact e this
  · intro hc
    refine ⟨⟨hp, (cr_iff.1 hc).1⟩, fun m hm => ?_⟩
    have hm' : m ∈ ordL n := List.mem_of_mem_take hm
    rcases Bool.eq_false_or_eq_true (crB n zs m && subP m p) with h | h
    · rw [h]
      rw [Bool.and_eq_true] at h
      rw [cr_least hn hp hm' hc (cr_iff.1 h.1).1 h.2]
      simp
    · rw [h]; rfl
theorem take_all {α : Type} (l : List α) (p : α → Bool) {k : Nat} (hk : k < l.length) : (l.take (k + 1)).all p = ((l.take k).all p && p l[k]) := by
  rw [List.take_add_one, List.getElem?_eq_getElem hk, List.all_append]
  simp
theorem still_zero {n : Nat} {zs : List Int} {q : Nat × Nat} : stillB n zs 0 q = ((ordL n).contains q && !opn zs q) := by
  unfold stillB; simp
theorem still_no {n : Nat} {zs : List Int} {k : Nat} {q : Nat × Nat} (hk : k < (ordL n).length) (h : crB n zs (ordL n)[k] = false) : stillB n zs (k + 1) q = stillB n zs k q := by
  unfold stillB
  rw [take_all _ _ hk, h]; simp
theorem still_yes {n : Nat} {zs : List Int} {k : Nat} {q : Nat × Nat} (hk : k < (ordL n).length) (h : crB n zs (ordL n)[k] = true) : stillB n zs (k + 1) q = (stillB n zs k q && !(subP (ordL n)[k] q && q != (ordL n)[k])) := by
  unfold stillB
  rw [take_all _ _ hk, h]
  obtain ⟨p, hpe⟩ : ∃ p, p = (ordL n)[k] := ⟨_, rfl⟩
  rw [← hpe, ← Bool.and_assoc]
  congr 1
  rcases Bool.eq_false_or_eq_true (subP p q) with h1 | h1
  · rw [h1]
    by_cases e : p = q
    · subst e; simp
    · have e2 : ¬ q = p := fun h => e h.symm
      have e3 : (p == q) = false := by simpa using e
      have e4 : (q != p) = true := by simpa using e2
      rw [e3, e4]; rfl
  · rw [h1]; simp
theorem filter_takeP (n : Nat) (zs : List Int) {k : Nat} (hk : k < (ordL n).length) : ((ordL n).take (k + 1)).filter (crB n zs) = ((ordL n).take k).filter (crB n zs) ++ (if crB n zs (ordL n)[k] = true then [(ordL n)[k]] else []) := by
  rw [List.take_add_one, List.getElem?_eq_getElem hk, List.filter_append]
  by_cases h : crB n zs (ordL n)[k] = true <;> simp [h]
end Go.Proofs.Ytbmodiobgkmngaa

/- Open: Whether a judgment has all answers of a part: the model's loop, the program's closures; IsOpen. -/
namespace Go.Proofs.Ytbmodiobgkmngaa
open Go.RowKit Go.Joins


theorem hasPart_any (x c b : Int) (w : World) (hx : 0 ≤ x ∧ x ≤ 15) (hc : 0 ≤ c ∧ c ≤ 15) (hb : 0 ≤ b) :
    Calls Try.prog 96 #[.int .i64 x, .agg #[.int .i64 c, .int .i64 b]] w fun e w' => e = .returned (.bool (hpB x c b)) ∧ Below w.heap.size w w' := by
  have hp := hide (hp_and hx hc hb)
  clear hx hc hb
  go_enter Try.func96, Try.ntmps96
  go_wp2_with fail
  go_ret
  exact ⟨ret_bool hp.out, bel1 w _⟩

theorem openAsker11_any (x c b : Int) (g : Nat) (w : World) (bx : PBox w g c b) (hx : 0 ≤ x ∧ x ≤ 15) (hc : 0 ≤ c ∧ c ≤ 15) (hb : 0 ≤ b) :
    Calls Try.prog 95 #[.int .i64 x, .pointer (some ⟨g, 0, none⟩)] w fun e w' => e = .returned (.bool (hpB x c b)) ∧ Below w.heap.size w w' := by
  obtain ⟨_, c0, c1⟩ := bx
  go_enter Try.func95, Try.ntmps95
  go_wp2_with fail
  refine (hasPart_any _ _ _ _ hx hc hb).mono ?_
  rintro e w1 ⟨rfl, h1⟩
  go_wp2
  go_ret
  exact ⟨rfl, h1⟩

/-- What slices.IndexFunc leaves. -/
def IdxFPost (zs : List Int) (c b : Int) (w : World) (e : Ending) (w' : World) : Prop :=
  ∃ r : Int, ((openB zs c b = true ∧ 0 ≤ r) ∨ (openB zs c b = false ∧ r = -1)) ∧ r ≤ 1048576 ∧ e = .returned (.int .i64 r) ∧ Below w.heap.size w w'

set_option maxHeartbeats 1000000 in
theorem indexFunc_any (c b : Int) (a : Option Addr) (cap g : Nat) (zs : List Int) (w : World) (hi : Ints w a zs) (hn : zs.length ≤ 1048576) (px : PBox w g c b) (hr : ∀ x ∈ zs, 0 ≤ x ∧ x ≤ 15) (hc : 0 ≤ c ∧ c ≤ 15) (hb : 0 ≤ b) :
    Calls Try.prog 80 #[.slice a zs.length cap, .func (.func 95) #[] #[.pointer (some ⟨g, 0, none⟩)]] w (IdxFPost zs c b w) := by
  have HC := hide hc
  have HB := hide hb
  have HR := hide hr
  clear hc hb hr
  go_enter Try.func80, Try.ntmps80
  go_wp2_with fail
  go_loopw [8] (fun i wr => ∃ k : Nat, k ≤ zs.length ∧ i = .int .i64 k ∧ (∀ j, j < k → hpB (zs.getD j 0) c b = false) ∧ Below w.heap.size w wr) (fun i _ => zs.length - (intOf i).toNat)
  case atStart => exact ⟨0, Nat.zero_le _, rfl, fun j hj => by omega, Below.refl _ _⟩
  case round =>
    obtain ⟨k, hk, rfl, hall, hb⟩ := hrel
    have HA := hide hall
    clear hall
    by_cases hlt : k < zs.length
    · obtain ⟨bb, off, rfl, hbl, hc⟩ := (hi.below hb) (by omega)
      have hck := hc k hlt
      rw [getD_lt hlt] at hck
      clear hc hi
      by_cases he : hpB zs[k] c b = true
      · have HF := hide (openB_true hlt he)
        have HE := hide he
        clear he
        go_wp2_with fail
        refine (openAsker11_any _ c b _ _ (px.below hb) (HR.out _ (mem_of_at hlt)) HC.out HB.out).mono ?_
        rintro e w1 ⟨rfl, h1⟩
        have he := HE.out
        go_wp2
        go_ret
        exact ⟨k, .inl ⟨HF.out, by omega⟩, by omega, rfl, bnext hb h1⟩
      · have he : hpB zs[k] c b = false := by simpa using he
        have HE := hide he
        clear he
        go_wp2_with fail
        refine (openAsker11_any _ c b _ _ (px.below hb) (HR.out _ (mem_of_at hlt)) HC.out HB.out).mono ?_
        rintro e w1 ⟨rfl, h1⟩
        have he := HE.out
        go_wp2
        go_roundw
        case rel => exact ⟨k + 1, by omega, by go_num, fun j hj => by
          rcases Nat.lt_or_ge j k with h | h
          · exact HA.out j h
          · obtain rfl : j = k := by omega
            rw [getD_lt hlt]
            exact HE.out, bnext hb h1⟩
        case measure => simp only [intOf]; omega
    · obtain rfl : k = zs.length := by omega
      go_wp2
      go_ret
      exact ⟨-1, .inr ⟨openB_false HA.out, rfl⟩, by omega, rfl, hb⟩

theorem containsFunc_any (c b : Int) (a : Option Addr) (cap g : Nat) (zs : List Int) (w : World) (hi : Ints w a zs) (hn : zs.length ≤ 1048576) (px : PBox w g c b) (hr : ∀ x ∈ zs, 0 ≤ x ∧ x ≤ 15) (hc : 0 ≤ c ∧ c ≤ 15) (hb : 0 ≤ b) :
    Calls Try.prog 57 #[.slice a zs.length cap, .func (.func 95) #[] #[.pointer (some ⟨g, 0, none⟩)]] w fun e w' => e = .returned (.bool (openB zs c b)) ∧ Below w.heap.size w w' := by
  by_cases hm : openB zs c b = true
  · have HM := hide hm
    clear hm
    go_enter Try.func57, Try.ntmps57
    go_wp2_with fail
    refine (indexFunc_any _ _ _ _ _ _ _ hi hn px hr hc hb).mono ?_
    rintro e w' ⟨r, hr, hr2, rfl, hb⟩
    have h0 : 0 ≤ r := by
      rcases hr with ⟨_, h⟩ | ⟨h, _⟩
      · exact h
      · rw [HM.out] at h; cases h
    clear hr
    go_wp2
    go_ret
    exact ⟨ret_bool HM.out.symm, hb⟩
  · have hm : openB zs c b = false := by simpa using hm
    have HM := hide hm
    clear hm
    go_enter Try.func57, Try.ntmps57
    go_wp2_with fail
    refine (indexFunc_any _ _ _ _ _ _ _ hi hn px hr hc hb).mono ?_
    rintro e w' ⟨r, hr, hr2, rfl, hb⟩
    have h0 : r < 0 := by
      rcases hr with ⟨h, _⟩ | ⟨_, h⟩
      · rw [HM.out] at h; cases h
      · omega
    clear hr
    go_wp2
    go_ret
    exact ⟨ret_bool (by rw [HM.out]; simp; omega), hb⟩

theorem openAsker1_any (n c b : Int) (a : Option Addr) (cap g : Nat) (zs : List Int) (w : World) (hi : Ints w a zs) (hn : zs.length ≤ 1048576) (bx : Box w g n a zs.length cap) (hr : ∀ x ∈ zs, 0 ≤ x ∧ x ≤ 15) (hc : 0 ≤ c ∧ c ≤ 15) (hb : 0 ≤ b) :
    Calls Try.prog 94 #[.agg #[.int .i64 c, .int .i64 b], .pointer (some ⟨g, 0, none⟩)] w fun e w' => e = .returned (.bool (openB zs c b)) ∧ Below w.heap.size w w' := by
  have ia := hi.below (bel1 w (.cells #[.int .i64 c, .int .i64 b] 79))
  have px := PBox.new w c b 79
  obtain ⟨_, c0, c1⟩ := bx
  clear hi
  have HR := hide hr
  have HC := hide hc
  have HB := hide hb
  clear hr hc hb
  go_enter Try.func94, Try.ntmps94
  go_wp2_with fail
  refine (containsFunc_any _ _ _ _ _ _ _ ia hn px HR.out HC.out HB.out).mono ?_
  rintro e w1 ⟨rfl, h1⟩
  go_wp2
  go_ret
  exact ⟨rfl, bnext (bel1 w _) h1⟩

theorem openAsker_any (n : Int) (a : Option Addr) (len cap : Nat) (w : World) : Calls Try.prog 86 #[.agg #[.int .i64 n, .slice a len cap]] w fun e w' =>
    e = .returned (.func (.func 94) #[] #[.pointer (some ⟨w.heap.size, 0, none⟩)]) ∧ w' = w.alloc (.cells #[.int .i64 n, .slice a len cap] 25) := by
  go_enter Try.func86, Try.ntmps86
  go_wp2_with fail
  go_ret
  exact ⟨rfl, rfl⟩

/-- what IsOpen answers -/
def opB (n : Int) (zs : List Int) (c b : Int) : Bool := vpB n zs c b && openB zs c b
theorem opB_false {n : Int} {zs : List Int} {c b : Int} (h : vpB n zs c b = false) : opB n zs c b = false := by unfold opB; rw [h]; rfl
theorem opB_true {n : Int} {zs : List Int} {c b : Int} (h : vpB n zs c b = true) : opB n zs c b = openB zs c b := by unfold opB; rw [h]; rfl
theorem vp_of {n : Int} {zs : List Int} {c b : Int} (h : vpB n zs c b = true) : Valid n zs ∧ IsPt n c b := by
  simpa [vpB, vsB, ptB] using h

end Go.Proofs.Ytbmodiobgkmngaa

/- CrD: dropGreater: of a map from parts, those that have all answers of a part, and more, are deleted. -/
namespace Go.Proofs.Ytbmodiobgkmngaa
open Go.RowKit Go.Joins Go.ChangeMaps Go.MapKept Go.WideShapes
open Go.Maps (Keyed)

/-- whether q has all answers of p, and more -/
def gtP (p q : Nat × Nat) : Bool := subP p q && q != p
/-- every key of a map is a part below 16 -/
def KeysIn (D : DataW Unit) : Prop := ∀ kl, Maps.has D kl = true → ∃ q : Nat × Nat, q.1 < 16 ∧ q.2 < 16 ∧ kl = litP (q.1 : Int) (q.2 : Int)
theorem KeysIn.empty : KeysIn (.map []) := fun kl h => by simp [Maps.has] at h
theorem KeysIn.put {D : DataW Unit} (h : KeysIn D) {q : Nat × Nat} (hq1 : q.1 < 16) (hq2 : q.2 < 16) (d : DataW Unit) : KeysIn (D.put (litP (q.1 : Int) (q.2 : Int)) d) := fun kl hk => by
  by_cases e : kl = litP (q.1 : Int) (q.2 : Int)
  · exact ⟨q, hq1, hq2, e⟩
  · rw [Maps.has_put_other e] at hk
    exact h kl hk
theorem KeysIn.del {D : DataW Unit} (h : KeysIn D) (l : Lit) : KeysIn (D.del l) := fun kl hk => by
  by_cases e : kl = l
  · rw [e, Maps.has_del_same] at hk
    cases hk
  · rw [Maps.has_del_other e] at hk
    exact h kl hk
/-- the map while its keys are gone through: f but for those that have had their turn and are greater -/
def DG (f : Nat × Nat → Bool) (p : Nat × Nat) (left : Lit → Bool) (D : DataW Unit) : Prop :=
  MapIs D (fun q => f q && !(gtP p q && !left (litP (q.1 : Int) (q.2 : Int)))) ∧ KeysIn D
theorem MapIs.congr {D : DataW Unit} {f g : Nat × Nat → Bool} (h : MapIs D f) (e : ∀ q : Nat × Nat, q.1 < 16 → q.2 < 16 → f q = g q) : MapIs D g :=
  ⟨h.1, fun q h1 h2 => by rw [← e q h1 h2]; exact h.2 q h1 h2⟩
theorem DG.start {D : DataW Unit} {f : Nat × Nat → Bool} {p : Nat × Nat} (h : MapIs D f) (hk : KeysIn D) : DG f p (Maps.has D) D := by
  refine ⟨h.congr (fun q h1 h2 => ?_), hk⟩
  cases hf : f q
  · rfl
  · cases hh : Maps.has D (litP (q.1 : Int) (q.2 : Int))
    · have e := h.2 q h1 h2
      rw [Maps.atKey_of_not_has hh, hf] at e
      cases e
    · simp
theorem litP_same {q q' : Nat × Nat} (h1 : q.1 < 16) (h2 : q.2 < 16) (h1' : q'.1 < 16) (h2' : q'.2 < 16) : (litP (q.1 : Int) (q.2 : Int)).sameKey (litP (q'.1 : Int) (q'.2 : Int)) = decide (q = q') := by
  by_cases e : q = q'
  · rw [e, WideAt.sameKey_self (litP_key _ _)]; simp
  · rw [Maps.sameKey_ne (litP_ne h1 h2 h1' h2' e), decide_eq_false e]
theorem DG.stay {D : DataW Unit} {f : Nat × Nat → Bool} {p q : Nat × Nat} {left : Lit → Bool} (h : DG f p left D) (h1 : q.1 < 16) (h2 : q.2 < 16) (hg : gtP p q = false) : DG f p (fun z => left z && !z.sameKey (litP (q.1 : Int) (q.2 : Int))) D := by
  refine ⟨h.1.congr (fun x hx1 hx2 => ?_), h.2⟩
  show _ = (f x && !(gtP p x && !(left (litP (x.1 : Int) (x.2 : Int)) && !(litP (x.1 : Int) (x.2 : Int)).sameKey (litP (q.1 : Int) (q.2 : Int)))))
  rw [litP_same hx1 hx2 h1 h2]
  by_cases e : x = q
  · rw [e, hg]; simp
  · rw [decide_eq_false e]; simp
theorem DG.struck {D : DataW Unit} {f : Nat × Nat → Bool} {p q : Nat × Nat} {left : Lit → Bool} (h : DG f p left D) (h1 : q.1 < 16) (h2 : q.2 < 16) (hg : gtP p q = true) : DG f p (fun z => left z && !z.sameKey (litP (q.1 : Int) (q.2 : Int))) (D.del (litP (q.1 : Int) (q.2 : Int))) := by
  refine ⟨(h.1.del h1 h2).congr (fun x hx1 hx2 => ?_), h.2.del _⟩
  show _ = (f x && !(gtP p x && !(left (litP (x.1 : Int) (x.2 : Int)) && !(litP (x.1 : Int) (x.2 : Int)).sameKey (litP (q.1 : Int) (q.2 : Int)))))
  rw [litP_same hx1 hx2 h1 h2]
  by_cases e : x = q
  · rw [if_pos e, e, hg]; simp
  · rw [if_neg e, decide_eq_false e]; simp
theorem DG.done {D : DataW Unit} {f : Nat × Nat → Bool} {p : Nat × Nat} {left : Lit → Bool} (h : DG f p left D) (hl : ∀ kl, left kl = false) : MapIs D (fun q => f q && !gtP p q) ∧ KeysIn D :=
  ⟨h.1.congr (fun q _ _ => by rw [hl]; simp), h.2⟩
theorem part_keyV (key : Value) (kl : Lit) (h : keyOf Try.prog 79 key = some kl) : ∃ x : Int × Int, key = .agg #[.int .i64 x.1, .int .i64 x.2] := by
  obtain ⟨c, b, rfl, _⟩ := part_key_inv h
  exact ⟨(c, b), rfl⟩
theorem bool_elemV (v : Value) (y : DataW Unit × List MemPlace) (h : plainElem Try.prog 4 v = some y) : ∃ c : Bool, v = .bool c := by
  obtain ⟨x, rfl, _⟩ := plainElem_bool_inv Try.underlying4 h
  exact ⟨x, rfl⟩
/-- the key that comes is a part below 16 -/
theorem key_nat {D : DataW Unit} (hk : KeysIn D) {x : Int × Int} {kl : Lit} {d : DataW Unit} (h : keyOf Try.prog 79 (.agg #[.int .i64 x.1, .int .i64 x.2]) = some kl) (hat : ∀ zd, D.atKey kl zd = d) :
    ∃ q : Nat × Nat, x = ((q.1 : Int), (q.2 : Int)) ∧ q.1 < 16 ∧ q.2 < 16 ∧ kl = litP (q.1 : Int) (q.2 : Int) := by
  obtain ⟨q, h1, h2, rfl⟩ := hk kl (Maps.has_true_of_atKey hat)
  obtain ⟨c, b, e, wc, wb, ek⟩ := part_key_inv h
  obtain ⟨e1, e2⟩ := litP_inj (wf_16 _ h1) (wf_16 _ h2) wc wb ek
  simp only [Value.agg.injEq, Array.mk.injEq, List.cons.injEq, Value.int.injEq, and_true, true_and] at e
  exact ⟨q, Prod.ext (by rw [e.1, e1]) (by rw [e.2, e2]), h1, h2, rfl⟩
theorem hasPart_was (x c b : Int) (w : World) (r : Bool) (hx : 0 ≤ x ∧ x ≤ 15) (hc : 0 ≤ c ∧ c ≤ 15) (hb : 0 ≤ b) (hr : hpB x c b = r) :
    Calls Try.prog 96 #[.int .i64 x, .agg #[.int .i64 c, .int .i64 b]] w fun e w' => e = .returned (.bool r) ∧ Below w.heap.size w w' := by
  subst hr
  exact hasPart_any x c b w hx hc hb
/-- the step of a range over a map from parts below 16 -/
theorem next_part {w : World} {ops : Array Oper} {rest : List Oper} {o : Oper} {a : Act} {Q : Exit → Act → World → Prop} (hg : o.guard = none) (it : Operand) (hop : o.op = Op.next it false) (b r n : Nat) (D : DataW Unit) (left : Lit → Bool) (cnt : Nat)
    (hit : a.eval it = .pointer (some ⟨r, 0, none⟩)) (h : w.ranges Try.prog 79 (plainElem Try.prog 4) b r n D left cnt) (hk : KeysIn D)
    (hDone : (∀ kl, left kl = false) → wpList Try.prog ops Q rest (a.put o.dst (.tuple #[.bool false])) w)
    (hMore : ∀ (q1 q2 : Nat) (v : Value) (w' : World) (cnt' : Nat), q1 < 16 → q2 < 16 → w'.ranges Try.prog 79 (plainElem Try.prog 4) b r n D (fun z => left z && !z.sameKey (litP (q1 : Int) (q2 : Int))) cnt' → cnt' < cnt →
      w.grownBy w' (some r) → (Instr.entry (.pointer (some ⟨r, 0, none⟩))).run Try.prog w' = .ok (.tuple #[.agg #[.int .i64 q1, .int .i64 q2], v]) w' → wpList Try.prog ops Q rest (a.put o.dst (.tuple #[.bool true, .agg #[.int .i64 q1, .int .i64 q2], v])) w') :
    wpList Try.prog ops Q (o :: rest) a w := by
  refine wpList_next_ranges w hg it hop 79 part_keyed (plainElem Try.prog 4) (fun x : Int × Int => Value.agg #[.int .i64 x.1, .int .i64 x.2]) Value.bool part_keyV bool_elemV b r n D left cnt hit h (fun _ hl => hDone hl) ?_
  intro x c kl y w' cnt' hkey hlk hv hat hrg hlt hgr hsz hen
  obtain ⟨q, rfl, h1, h2, rfl⟩ := key_nat hk hkey hat
  exact hMore q.1 q.2 (.bool c) w' cnt' h1 h2 hrg hlt hgr hen
/-- What dropGreater leaves. -/
def DropPost (b n : Nat) (f : Nat × Nat → Bool) (p : Nat × Nat) (w : World) (e : Ending) (w' : World) : Prop :=
  e = .returned (.tuple #[]) ∧ (∃ D' : DataW Unit, w'.ownsMap Try.prog 79 (plainElem Try.prog 4) b n D' ∧ MapIs D' (fun q => f q && !gtP p q) ∧ KeysIn D') ∧ w.grownBy w' (some b)
theorem gcell {w w' : World} {row : Option Nat} (h : w.grownBy w' row) {a : Addr} (hb : a.block < w.heap.size) (hne : some a.block ≠ row) : w'.cell? a = w.cell? a := by
  have e := h.block a.block hb hne
  unfold World.cell?
  rw [e]
theorem PBox.grown {w w' : World} {row : Option Nat} {g : Nat} {c b : Int} (h : PBox w g c b) (hg : w.grownBy w' row) (hne : some g ≠ row) : PBox w' g c b :=
  ⟨Nat.lt_of_lt_of_le h.1 hg.size, (gcell hg (a := ⟨g, 0, none⟩) h.1 hne).trans h.2.1, (gcell hg (a := ⟨g, 1, none⟩) h.1 hne).trans h.2.2⟩
theorem grown_of {w w' : World} (hb : Below w.heap.size w w') : w.grownBy w' none := ⟨hb.os, hb.tape, hb.output, hb.size, fun k hk _ => hb.block k hk⟩

set_option maxHeartbeats 2000000 in
set_option maxRecDepth 100000 in
theorem dropGreater_any (b n : Nat) (D : DataW Unit) (f : Nat × Nat → Bool) (pc pb : Nat) (w : World) (hp1 : pc < 16) (hp2 : pb < 16) (hown : w.ownsMap Try.prog 79 (plainElem Try.prog 4) b n D) (hm : MapIs D f) (hk : KeysIn D) :
    Calls Try.prog 87 #[.map (some b), .agg #[.int .i64 pc, .int .i64 pb]] w (DropPost b n f (pc, pb) w) := by
  have hown1 := hown.alloc (.cells #[.int .i64 pc, .int .i64 pb] 79)
  have px := PBox.new w (pc : Int) (pb : Int) 79
  have HB1 := hide (bel1 w (.cells #[.int .i64 pc, .int .i64 pb] 79))
  have hbl := hown.lt
  clear hown
  go_enter Try.func87, Try.ntmps87
  go_wp2_with (first
    | (at_range; refine wpList_range_own _ rfl _ 91 rfl 79 4 part_keyed Try.underlying91 _ b n _ rfl hown1 ?_; intro w0 hrg0 hg0 hs0)
    | go_in)
  go_frame
  simp only [World.size_alloc] at hrg0 ⊢
  have P0 := px.grown hg0 (by simp)
  have HG0 := hide hg0
  have HS0 := hide hs0
  clear px hg0 hs0 hown1
  go_loopw [4] (fun _ wr => ∃ (left : Lit → Bool) (cnt : Nat) (D' : DataW Unit), wr.ranges Try.prog 79 (plainElem Try.prog 4) b (w.heap.size + 1) n D' left cnt ∧ DG f (pc, pb) left D' ∧ w.grownBy wr (some b) ∧ PBox wr w.heap.size (pc : Int) (pb : Int))
    (fun _ wr => wr.rangeLeft b (w.heap.size + 1))
  case atStart => exact ⟨_, _, _, hrg0, DG.start hm hk, gtrans (grown_of HB1.out) HG0.out |>.but _, P0⟩
  case round =>
    obtain ⟨left, cnt, D', hrg, hd, hg, hp⟩ := hrel
    clear P0 hrg0
    go_wp2_with (first
      | (at_next; refine next_part rfl _ rfl b (w.heap.size + 1) n _ _ _ rfl hrg hd.2 ?_ ?_)
      | go_in)
    · intro hl0
      go_wp2
      go_end0
      exact ⟨rfl, ⟨D', hrg.owns, hd.done hl0⟩, hg⟩
    · intro q1 q2 v w1 cnt1 hq1 hq2 hrg1 hlt hg1 hen
      have hg2 := hg.andThen hg1 (fun j hj => by cases hj; exact Or.inl (Nat.le_succ _))
      have P1 := hp.grown hg1 (by simp)
      have qx := PBox.new w1 (q1 : Int) (q2 : Int) 79
      have P2 := P1.below (bel1 w1 (.cells #[.int .i64 q1, .int .i64 q2] 79))
      have hg3 := gtrans hg2 ((grown_of (bel1 w1 (.cells #[.int .i64 q1, .int .i64 q2] 79))).but (some b))
      have hr3 := hrg1.alloc (.cells #[.int .i64 q1, .int .i64 q2] 79)
      have HD := hide hd
      have HG3 := hide hg3
      have HR3 := hide hr3
      have HRG := hide hrg
      have HLT := hide hlt
      have HPB := hide P2
      obtain ⟨_, p0, p1⟩ := P2
      obtain ⟨_, u0, u1⟩ := qx
      have hwf1 := hide (wf_16 q1 hq1)
      have hwf2 := hide (wf_16 q2 hq2)
      clear hrg1 hg1 hrg hd hg hp hg2 hlt P1 hg3 hr3
      by_cases hq : q1 = pc ∧ q2 = pb
      · obtain ⟨rfl, rfl⟩ := hq
        have HQ : Hid (gtP (q1, q2) (q1, q2) = false) := by unfold Hid gtP; simp
        go_wp2
        go_roundw
        case rel => exact ⟨(fun z => left z && !z.sameKey (litP (q1 : Int) (q2 : Int))), cnt1, D', HR3.out, HD.out.stay (q := (q1, q2)) hq1 hq2 HQ.out, HG3.out, HPB.out⟩
        case measure => rw [HR3.out.left_eq, HRG.out.left_eq]; exact HLT.out
      · have hne : ((q1, q2) != (pc, pb)) = true := by
          rw [bne_iff_ne]
          intro e
          exact hq (by simpa using e)
        have hsub := andNot_zero (pc : Int) q1 (wf_16 pc hp1) hq1
        rw [Int.toNat_natCast] at hsub
        have hh := hp_nat (q2 : Int) pc pb
        rw [Int.toNat_natCast] at hh
        by_cases hs : pc &&& q1 = pc
        · have hA : (bits .andNot .i64 (pc : Int) (q1 : Int) == 0) = true := by rw [beq_iff_eq]; exact hsub.2 ⟨by omega, hs⟩
          cases hv : (q2 &&& pc == pb) with
          | false =>
            have HQ : Hid (gtP (pc, pb) (q1, q2) = false) := by unfold Hid gtP subP; simp only [hv]; simp
            rw [hv] at hh
            have HH := hide hh
            clear hv hh hs hsub hne
            have hpr : Hid ((0 ≤ (q2 : Int) ∧ (q2 : Int) ≤ 15) ∧ (0 ≤ (pc : Int) ∧ (pc : Int) ≤ 15) ∧ 0 ≤ (pb : Int)) := ⟨⟨by omega, by omega⟩, ⟨by omega, by omega⟩, by omega⟩
            by_cases e1 : q1 = pc
            · have e2 : ¬ ((q2 : Int) = (pb : Int)) := fun e => hq ⟨e1, by omega⟩
              subst e1
              clear hq
              go_wp2_with fail
              refine (hasPart_was _ _ _ _ false hpr.out.1 hpr.out.2.1 hpr.out.2.2 HH.out).mono ?_
              rintro e w4 ⟨rfl, b4⟩
              have HG4 := hide (gtrans HG3.out ((grown_of b4).but (some b)))
              have HR4 := hide (HR3.out.kept (grown_of b4) (by simp) (by simp))
              have HP4 := hide (HPB.out.below b4)
              go_wp2
              go_roundw
              case rel => exact ⟨(fun z => left z && !z.sameKey (litP (q1 : Int) (q2 : Int))), cnt1, D', HR4.out, HD.out.stay (q := (q1, q2)) hq1 hq2 HQ.out, HG4.out, HP4.out⟩
              case measure => rw [HR4.out.left_eq, HRG.out.left_eq]; exact HLT.out
            · have e2 : ¬ ((q1 : Int) = (pc : Int)) := fun e => e1 (by omega)
              clear hq e1
              go_wp2_with fail
              refine (hasPart_was _ _ _ _ false hpr.out.1 hpr.out.2.1 hpr.out.2.2 HH.out).mono ?_
              rintro e w4 ⟨rfl, b4⟩
              have HG4 := hide (gtrans HG3.out ((grown_of b4).but (some b)))
              have HR4 := hide (HR3.out.kept (grown_of b4) (by simp) (by simp))
              have HP4 := hide (HPB.out.below b4)
              go_wp2
              go_roundw
              case rel => exact ⟨(fun z => left z && !z.sameKey (litP (q1 : Int) (q2 : Int))), cnt1, D', HR4.out, HD.out.stay (q := (q1, q2)) hq1 hq2 HQ.out, HG4.out, HP4.out⟩
              case measure => rw [HR4.out.left_eq, HRG.out.left_eq]; exact HLT.out
          | true =>
            have HQ : Hid (gtP (pc, pb) (q1, q2) = true) := by unfold Hid gtP subP; simp only [hv, hne, hs]; simp
            rw [hv] at hh
            have HH := hide hh
            clear hv hh hs hsub hne
            have hpr : Hid ((0 ≤ (q2 : Int) ∧ (q2 : Int) ≤ 15) ∧ (0 ≤ (pc : Int) ∧ (pc : Int) ≤ 15) ∧ 0 ≤ (pb : Int)) := ⟨⟨by omega, by omega⟩, ⟨by omega, by omega⟩, by omega⟩
            have HU0 := hide u0
            have HU1 := hide u1
            by_cases e1 : q1 = pc
            · have e2 : ¬ ((q2 : Int) = (pb : Int)) := fun e => hq ⟨e1, by omega⟩
              subst e1
              clear hq
              go_wp2_with fail
              refine (hasPart_was _ _ _ _ true hpr.out.1 hpr.out.2.1 hpr.out.2.2 HH.out).mono ?_
              rintro e w4 ⟨rfl, b4⟩
              have HG4 := hide (gtrans HG3.out ((grown_of b4).but (some b)))
              have hr4 := HR3.out.kept (grown_of b4) (by simp) (by simp)
              have HP4 := hide (HPB.out.below b4)
              have v0 := (b4.cell (p := ⟨w1.heap.size, 0, none⟩) (by simp)).trans HU0.out
              have v1 := (b4.cell (p := ⟨w1.heap.size, 1, none⟩) (by simp)).trans HU1.out
              clear u0 u1 p0 p1 b4
              go_wp2_with (first
                | (at_delete; refine wpList_delete_ranges _ rfl _ _ 91 79 rfl 4 part_keyed Try.underlying91 _ b (w.heap.size + 1) n _ _ _ rfl hr4 _ _ rfl (part_key _ _ hwf1.out hwf2.out) ?_; intro w5 cnt5 hrg5 hle hturn; go_frame)
                | go_in)
              rw [Maps.strike_twice] at hrg5
              have HG5 := hide (HG4.out.andThen hturn.grown (fun j hj => by cases hj; exact Or.inr rfl))
              have HP5 := hide (HP4.out.grown hturn.grown (by simp; omega))
              go_roundw
              case rel => exact ⟨(fun z => left z && !z.sameKey (litP (q1 : Int) (q2 : Int))), cnt5, _, hrg5, HD.out.struck (q := (q1, q2)) hq1 hq2 HQ.out, HG5.out, HP5.out⟩
              case measure => rw [hrg5.left_eq, HRG.out.left_eq]; have := HLT.out; omega
            · have e2 : ¬ ((q1 : Int) = (pc : Int)) := fun e => e1 (by omega)
              clear hq e1
              go_wp2_with fail
              refine (hasPart_was _ _ _ _ true hpr.out.1 hpr.out.2.1 hpr.out.2.2 HH.out).mono ?_
              rintro e w4 ⟨rfl, b4⟩
              have HG4 := hide (gtrans HG3.out ((grown_of b4).but (some b)))
              have hr4 := HR3.out.kept (grown_of b4) (by simp) (by simp)
              have HP4 := hide (HPB.out.below b4)
              have v0 := (b4.cell (p := ⟨w1.heap.size, 0, none⟩) (by simp)).trans HU0.out
              have v1 := (b4.cell (p := ⟨w1.heap.size, 1, none⟩) (by simp)).trans HU1.out
              clear u0 u1 p0 p1 b4
              go_wp2_with (first
                | (at_delete; refine wpList_delete_ranges _ rfl _ _ 91 79 rfl 4 part_keyed Try.underlying91 _ b (w.heap.size + 1) n _ _ _ rfl hr4 _ _ rfl (part_key _ _ hwf1.out hwf2.out) ?_; intro w5 cnt5 hrg5 hle hturn; go_frame)
                | go_in)
              rw [Maps.strike_twice] at hrg5
              have HG5 := hide (HG4.out.andThen hturn.grown (fun j hj => by cases hj; exact Or.inr rfl))
              have HP5 := hide (HP4.out.grown hturn.grown (by simp; omega))
              go_roundw
              case rel => exact ⟨(fun z => left z && !z.sameKey (litP (q1 : Int) (q2 : Int))), cnt5, _, hrg5, HD.out.struck (q := (q1, q2)) hq1 hq2 HQ.out, HG5.out, HP5.out⟩
              case measure => rw [hrg5.left_eq, HRG.out.left_eq]; have := HLT.out; omega
        · have hA : (bits .andNot .i64 (pc : Int) (q1 : Int) == 0) = false := by
            rw [beq_eq_false_iff_ne]
            intro e
            exact hs (hsub.1 e).2
          have HQ : Hid (gtP (pc, pb) (q1, q2) = false) := by
            unfold Hid gtP subP
            rw [show (pc &&& q1 == pc) = false from by simpa using hs]
            rfl
          have e2 : ¬ ((q1 : Int) = (pc : Int)) := fun e => hs (by
            obtain rfl : q1 = pc := by omega
            exact Nat.and_self q1)
          clear hs hsub hne hq hh
          go_wp2
          go_roundw
          case rel => exact ⟨(fun z => left z && !z.sameKey (litP (q1 : Int) (q2 : Int))), cnt1, D', HR3.out, HD.out.stay (q := (q1, q2)) hq1 hq2 HQ.out, HG3.out, HPB.out⟩
          case measure => rw [HR3.out.left_eq, HRG.out.left_eq]; exact HLT.out
end Go.Proofs.Ytbmodiobgkmngaa

/- CrS: The model's critical parts: its walk. -/
namespace Go.Proofs.Ytbmodiobgkmngaa
open Go.RowKit Go.Joins

/-- the critical parts of fewer than s issues -/
def lv0 (n : Nat) (zs : List Int) (s : Nat) : List (Nat × Nat) := ((List.range s).flatMap (ordS n)).filter (crB n zs)
def lv1 (n : Nat) (zs : List Int) (s c : Nat) : List (Nat × Nat) := lv0 n zs s ++ ((List.range c).flatMap (ordC s)).filter (crB n zs)
def lv2 (n : Nat) (zs : List Int) (s c b : Nat) : List (Nat × Nat) := lv1 n zs s c ++ (((List.range b).filter fun b => b &&& c == b).map fun b => (c, b)).filter (crB n zs)
theorem lv1_zero (n : Nat) (zs : List Int) (s : Nat) : lv1 n zs s 0 = lv0 n zs s := by simp [lv1]
theorem lv2_zero (n : Nat) (zs : List Int) (s c : Nat) : lv2 n zs s c 0 = lv1 n zs s c := by simp [lv2]
theorem lv1_end (n : Nat) (zs : List Int) (s : Nat) : lv1 n zs s (2 ^ n) = lv0 n zs (s + 1) := by
  unfold lv1 lv0
  rw [List.range_succ, List.flatMap_append, List.filter_append]
  simp [ordS]
theorem lv0_end (n : Nat) (zs : List Int) : lv0 n zs (n + 1) = critL n zs := rfl
theorem lv2_end {n : Nat} {zs : List Int} {s c : Nat} (h : wt c = s) : lv2 n zs s c (c + 1) = lv1 n zs s (c + 1) := by
  unfold lv2 lv1
  rw [List.range_succ (n := c), List.flatMap_append, List.filter_append, List.append_assoc]
  simp only [List.flatMap_cons, List.flatMap_nil, List.append_nil, ordC, if_pos h, List.range_succ (n := c), List.filter_append, List.map_append]
theorem lv1_skip {n : Nat} {zs : List Int} {s c : Nat} (h : wt c ≠ s) : lv1 n zs s (c + 1) = lv1 n zs s c := by
  unfold lv1
  rw [List.range_succ (n := c), List.flatMap_append, List.filter_append]
  simp [ordC, if_neg h]
theorem lv2_yes {n : Nat} {zs : List Int} {s c b : Nat} (h : (b &&& c == b) = true) (hc : crB n zs (c, b) = true) : lv2 n zs s c (b + 1) = lv2 n zs s c b ++ [(c, b)] := by
  unfold lv2
  rw [List.range_succ, List.filter_append, List.map_append, List.filter_append, List.append_assoc]
  congr 2
  simp only [List.filter_cons, h, if_true, List.filter_nil, List.map_cons, List.map_nil, hc]
theorem lv2_off {n : Nat} {zs : List Int} {s c b : Nat} (h : (b &&& c == b) = false) : lv2 n zs s c (b + 1) = lv2 n zs s c b := by
  unfold lv2
  rw [List.range_succ, List.filter_append, List.map_append, List.filter_append]
  simp [h]
theorem lv2_no {n : Nat} {zs : List Int} {s c b : Nat} (hc : crB n zs (c, b) = false) : lv2 n zs s c (b + 1) = lv2 n zs s c b := by
  unfold lv2
  rw [List.range_succ, List.filter_append, List.map_append, List.filter_append]
  by_cases h : (b &&& c == b) = true
  · simp only [List.filter_cons, h, if_true, List.filter_nil, List.map_cons, List.map_nil, hc]
    simp
  · simp [h]
def ofP (l : List (Nat × Nat)) : List (Int × Int) := l.map fun p => ((p.1 : Int), (p.2 : Int))
/-- the least so far -/
def lstB (zs : List Int) (p : Nat × Nat) (j : Nat) : Bool := (List.range j).all fun j => bitN p.1 j == 0 || opn zs (lessP j p)
theorem lst_next {zs : List Int} {p : Nat × Nat} {j : Nat} : lstB zs p (j + 1) = (lstB zs p j && (bitN p.1 j == 0 || opn zs (lessP j p))) := by
  unfold lstB
  rw [List.range_succ, List.all_append]
  simp
/-- the list under way -/
def CI (w : World) (N : Nat) (a : Option Addr) (zs : List Int) (cap : Nat) (v : Value) (l : List (Nat × Nat)) (K : Nat) (wq : World) : Prop :=
  OwnsP wq (w.heap.size + 1) v (ofP l) ∧ l.length ≤ K ∧ SV w (N : Int) a zs cap none [] wq
theorem CI.below {w : World} {N : Nat} {a : Option Addr} {zs : List Int} {cap : Nat} {v : Value} {l : List (Nat × Nat)} {K : Nat} {wq w' : World} (h : CI w N a zs cap v l K wq) (hb : Below wq.heap.size wq w') : CI w N a zs cap v l K w' :=
  ⟨h.1.below hb, h.2.1, h.2.2.below hb⟩
theorem CI.to {w : World} {N : Nat} {a : Option Addr} {zs : List Int} {cap : Nat} {v : Value} {l l' : List (Nat × Nat)} {K K' : Nat} {wq : World} (h : CI w N a zs cap v l K wq) (e : l' = l) (hk : K ≤ K') : CI w N a zs cap v l' K' wq := by
  subst e
  exact ⟨h.1, Nat.le_trans h.2.1 hk, h.2.2⟩
theorem CI.cells {w : World} {N : Nat} {a : Option Addr} {zs : List Int} {cap : Nat} {v : Value} {l : List (Nat × Nat)} {K : Nat} {wq : World} (h : CI w N a zs cap v l K wq) : wq.cell? ⟨w.heap.size, 0, none⟩ = some (.int .i64 (N : Int)) ∧ wq.cell? ⟨w.heap.size, 1, none⟩ = some (.slice a zs.length cap) := ⟨h.2.2.1.2.1, h.2.2.1.2.2⟩
theorem CI.push {w : World} {N : Nat} {a : Option Addr} {zs : List Int} {cap : Nat} {v v' : Value} {l : List (Nat × Nat)} {K c b : Nat} {wq w5 : World} (h : CI w N a zs cap v l K wq) (hi0 : Ints w a zs) (hg : wq.grownBy w5 v.ownBlock)
    (ho : w5.ownsRow (w.heap.size + 1) 79 2 v' ((ofP l).length + 1) (pflat (ofP l) ++ [.int .i64 (c : Int), .int .i64 (b : Int)])) : CI w N a zs cap v' (l ++ [(c, b)]) (K + 1) w5 := by
  have hp' : wq.ownsRow (w.heap.size + 1) 79 2 v (ofP l).length (pflat (ofP l)) := h.1
  have hge : ∀ k, v.ownBlock = some k → w.heap.size + 1 ≤ k := fun k hk => (World.ownsRow.lt hp' k hk).1
  have e : ofP (l ++ [(c, b)]) = ofP l ++ [((c : Int), (b : Int))] := by simp [ofP]
  refine ⟨by rw [e]; exact OwnsP.push ho, by rw [List.length_append]; have := h.2.1; simpa using this, ?_⟩
  obtain ⟨⟨hl, q0, q1⟩, hi, hj, hb⟩ := h.2.2
  have hB := bgrown hb hg hb.size (fun k hk => by have := hge k hk; omega)
  refine ⟨⟨Nat.lt_of_lt_of_le hl hg.size, hg.cell q0 (fun e => ?_), hg.cell q1 (fun e => ?_)⟩, hi0.below hB, fun hz => by simp at hz, hB⟩
  · have := hge _ e.symm
    simp at this
    omega
  · have := hge _ e.symm
    simp at this
    omega
theorem bit_was (x j r : Nat) (w : World) (hx : x < 16) (hj : j ≤ 4) (h : bitN x j = r) : Calls Try.prog 83 #[.int .i64 x, .int .i64 j] w fun e w' => e = .returned (.int .i64 (r : Nat)) ∧ w = w' := by
  subst h
  exact bit_any x j w hx hj
theorem bit_le {c j : Nat} (h : bitN c j = 1) : 2 ^ j ≤ c := by
  rcases Nat.lt_or_ge c (2 ^ j) with h1 | h1
  · unfold bitN at h
    rw [Nat.div_eq_of_lt h1] at h
    simp at h
  · exact h1
theorem cr_lst {n : Nat} {zs : List Int} {p : Nat × Nat} (h : opn zs p = false) : crB n zs p = lstB zs p n := by
  unfold crB lstB
  rw [h]
  rfl
theorem weight_was (x : Nat) (s : Nat) (w : World) (hx : x < 16) (h : wt x = s) : Calls Try.prog 88 #[.int .i64 x] w fun e w' => e = .returned (.int .i64 (s : Nat)) ∧ w = w' := by
  subst h
  exact weight_any x w hx
end Go.Proofs.Ytbmodiobgkmngaa

/- CrO: The program's list of all parts, in order. -/
namespace Go.Proofs.Ytbmodiobgkmngaa
open Go.RowKit Go.Joins

def or0 (n s : Nat) : List (Nat × Nat) := (List.range s).flatMap (ordS n)
def or1 (n s c : Nat) : List (Nat × Nat) := or0 n s ++ (List.range c).flatMap (ordC s)
def or2 (n s c b : Nat) : List (Nat × Nat) := or1 n s c ++ ((List.range b).filter fun b => b &&& c == b).map fun b => (c, b)
theorem or1_zero (n s : Nat) : or1 n s 0 = or0 n s := by simp [or1]
theorem or2_zero (n s c : Nat) : or2 n s c 0 = or1 n s c := by simp [or2]
theorem or1_end (n s : Nat) : or1 n s (2 ^ n) = or0 n (s + 1) := by
  unfold or1 or0
  rw [List.range_succ, List.flatMap_append]
  simp [ordS]
theorem or0_end (n : Nat) : or0 n (n + 1) = ordL n := rfl
theorem or2_end {n s c : Nat} (h : wt c = s) : or2 n s c (c + 1) = or1 n s (c + 1) := by
  unfold or2 or1
  rw [List.range_succ (n := c), List.flatMap_append, List.append_assoc]
  simp only [List.flatMap_cons, List.flatMap_nil, List.append_nil, ordC, if_pos h, List.range_succ (n := c)]
theorem or1_skip {n s c : Nat} (h : wt c ≠ s) : or1 n s (c + 1) = or1 n s c := by
  unfold or1
  rw [List.range_succ (n := c), List.flatMap_append]
  simp [ordC, if_neg h]
theorem or2_yes {n s c b : Nat} (h : (b &&& c == b) = true) : or2 n s c (b + 1) = or2 n s c b ++ [(c, b)] := by
  unfold or2
  rw [List.range_succ, List.filter_append, List.map_append, List.append_assoc]
  congr 2
  simp only [List.filter_cons, h, if_true, List.filter_nil, List.map_cons, List.map_nil]
theorem or2_off {n s c b : Nat} (h : (b &&& c == b) = false) : or2 n s c (b + 1) = or2 n s c b := by
  unfold or2
  rw [List.range_succ, List.filter_append, List.map_append]
  simp [h]
/-- the list under way -/
def PO (w : World) (v : Value) (l : List (Nat × Nat)) (K : Nat) (wq : World) : Prop := OwnsP wq w.heap.size v (ofP l) ∧ l.length ≤ K ∧ Below w.heap.size w wq
theorem PO.to {w : World} {v : Value} {l l' : List (Nat × Nat)} {K K' : Nat} {wq : World} (h : PO w v l K wq) (e : l' = l) (hk : K ≤ K') : PO w v l' K' wq := by
  subst e
  exact ⟨h.1, Nat.le_trans h.2.1 hk, h.2.2⟩
theorem PO.push {w : World} {v v' : Value} {l : List (Nat × Nat)} {K c b : Nat} {wq w5 : World} (h : PO w v l K wq) (o : Obj) (hg : (wq.alloc o).grownBy w5 v.ownBlock)
    (ho : w5.ownsRow w.heap.size 79 2 v' ((ofP l).length + 1) (pflat (ofP l) ++ [.int .i64 (c : Int), .int .i64 (b : Int)])) : PO w v' (l ++ [(c, b)]) (K + 1) w5 := by
  have hp' : wq.ownsRow w.heap.size 79 2 v (ofP l).length (pflat (ofP l)) := h.1
  have hge : ∀ k, v.ownBlock = some k → w.heap.size ≤ k := fun k hk => (World.ownsRow.lt hp' k hk).1
  have e : ofP (l ++ [(c, b)]) = ofP l ++ [((c : Int), (b : Int))] := by simp [ofP]
  have hB := bnext h.2.2 (bel1 wq o)
  exact ⟨by rw [e]; exact OwnsP.push ho, by rw [List.length_append]; have := h.2.1; simpa using this, bgrown hB hg hB.size hge⟩
theorem ones_was (x s : Nat) (w : World) (hx : x < 16) (h : wt x = s) : Calls Try.prog 93 #[.int .u64 x] w fun e w' => e = .returned (.int .i64 (s : Nat)) ∧ w = w' := by
  subst h
  exact onesCount_any x w hx
set_option maxHeartbeats 8000000 in
set_option maxRecDepth 100000 in
theorem partsInOrder_any (N : Nat) (w : World) (hn : 1 ≤ N ∧ N ≤ 4) :
    Calls Try.prog 85 #[.int .i64 (N : Int)] w fun e w' => ∃ v, e = .returned v ∧ OwnsP w' w.heap.size v (ofP (ordL N)) ∧ Below w.heap.size w w' := by
  obtain ⟨j0, hj0, hy0, hy1, hy2⟩ := info_parts info_part
  have p2 : 2 ^ N ≤ 16 := Nat.pow_le_pow_right (n := 2) (by omega) hn.2
  have e : ((2 : Int) ^ N) = ((2 ^ N : Nat) : Int) := by rw [Int.natCast_pow]; rfl
  obtain ⟨Q, hQ⟩ : ∃ Q, Q = 2 ^ N := ⟨_, rfl⟩
  rw [← hQ] at p2 e
  have hsh : wrap64 ((2 : Int) ^ N) = (Q : Int) := by
    rw [e]
    unfold wrap64
    omega
  have HQ := hide hQ
  have P0 : PO w (.slice none 0 0) [] 0 w := ⟨World.ownsRow_nil _ _ _ _, Nat.le_refl _, Below.refl _ _⟩
  clear hQ e
  go_enter Try.func85, Try.ntmps85
  go_wp2_with fail
  go_loopw [3, 9] (fun v i wq => ∃ s : Nat, s ≤ N + 1 ∧ i = .int .i64 s ∧ PO w v (or0 N s) (s * 256) wq) (fun _ i _ => N + 1 - (intOf i).toNat)
  case atStart => exact ⟨0, Nat.zero_le _, rfl, P0.to rfl (Nat.zero_le _)⟩
  case round =>
    clear P0
    obtain ⟨s, hs, rfl, hc⟩ := hrel
    obtain ⟨va, vc, rfl, _⟩ := hc.1.form
    by_cases hlt : (s : Int) < (N : Int) + 1
    · have HC := hide (hc.to (or1_zero N s) (Nat.le_refl _))
      clear hc
      go_wp2_with fail
      simp only [hsh]
      go_loopw [3, 14] (fun v i wq => ∃ c : Nat, c ≤ Q ∧ i = .int .i64 c ∧ PO w v (or1 N s c) (s * 256 + c * 16) wq) (fun _ i _ => Q - (intOf i).toNat)
      case atStart => exact ⟨0, Nat.zero_le _, rfl, HC.out⟩
      case round =>
        clear HC
        obtain ⟨c, hcq, rfl, hc⟩ := hrel
        obtain ⟨va, vc, rfl, _⟩ := hc.1.form
        by_cases hlc : c < Q
        · by_cases hw : wt c = s
          · have HC := hide (hc.to (or2_zero N s c) (Nat.le_refl _))
            have HW := hide hw
            have hss : ((s : Int) != (s : Int)) = false := by simp
            clear hc hw
            go_wp2_with (go_at_call 93; refine (ones_was c s _ (by omega) HW.out).mono ?_; rintro e w' ⟨rfl, rfl⟩)
            go_loopw [3, 24] (fun v i wq => ∃ b : Nat, b ≤ c + 1 ∧ i = .int .i64 b ∧ PO w v (or2 N s c b) (s * 256 + c * 16 + b) wq) (fun _ i _ => c + 1 - (intOf i).toNat)
            case atStart => exact ⟨0, Nat.zero_le _, rfl, HC.out⟩
            case round =>
              clear HC
              obtain ⟨b, hb, rfl, hc⟩ := hrel
              obtain ⟨va, vc, rfl, _⟩ := hc.1.form
              have HC := hide hc
              by_cases hbc : (b : Int) < (c : Int) + 1
              · have hz := andNot_zero (b : Int) c (by simp [Lit.wf, IntKind.min, IntKind.max, IntKind.bits, IntKind.signed]; omega) (by omega)
                rw [Int.toNat_natCast] at hz
                cases he : (b &&& c == b) with
                | true =>
                  have hand : (bits .andNot .i64 (b : Int) (c : Int) == 0) = true := by
                    rw [beq_iff_eq]
                    exact hz.2 ⟨by omega, by simpa using he⟩
                  have hop := hc.1
                  have hws := hc.2.2.size
                  have hl2 := hc.2.1
                  have hol : (ofP (or2 N s c b)).length ≤ s * 256 + c * 16 + b := by unfold ofP; rw [List.length_map]; exact hl2
                  have HE := hide he
                  clear hz he hc
                  go_wp2_with ((at_builtin; refine wpList_append_own _ rfl _ _ 76 rfl w.heap.size 79 j0 (.agg #[.int .i64 0, .int .i64 0]) 2 16 Try.underlying76 hj0 hy0 hy1 hy2 rfl (by decide) _ _ _ rfl (hop.alloc _) ⟨wr.heap.size, 0, none⟩ 1 1 [.int .i64 (c : Int), .int .i64 (b : Int)] rfl rfl (World.news_of_block (cs := #[.int .i64 (c : Int), .int .i64 (b : Int)]) (t := 79) (fr := (0, 0)) (heap_alloc_new wr _)) (by intro u hu; simp at hu; rcases hu with rfl | rfl <;> rfl) (by unfold maxLen; omega) (by omega) (by first | omega | (simp; omega)) ?_))
                  intro v' w6 hown' hgrow _
                  have V6 := HC.out.push (.cells #[.int .i64 (c : Int), .int .i64 (b : Int)] 79) hgrow hown'
                  rw [← or2_yes HE.out] at V6
                  obtain ⟨qa, qc, rfl, _⟩ := V6.1.form
                  have HV6 := hide V6
                  clear hop hown' hgrow V6
                  go_wp2
                  go_roundw
                  case rel => exact ⟨b + 1, by omega, by go_num, HV6.out⟩
                  case measure => simp only [intOf]; omega
                | false =>
                  have hand : (bits .andNot .i64 (b : Int) (c : Int) == 0) = false := by
                    rw [beq_eq_false_iff_ne]
                    intro h0
                    have := (hz.1 h0).2
                    rw [beq_eq_false_iff_ne] at he
                    exact he this
                  have HE := hide he
                  clear hz he hc
                  go_wp2
                  go_roundw
                  case rel => exact ⟨b + 1, by omega, by go_num, HC.out.to (or2_off HE.out) (by omega)⟩
                  case measure => simp only [intOf]; omega
              · obtain rfl : b = c + 1 := by omega
                clear hc
                go_wp2
                go_roundw
                case rel => exact ⟨c + 1, by omega, by go_num, HC.out.to (or2_end HW.out).symm (by omega)⟩
                case measure => simp only [intOf]; omega
          · have HC := hide (hc.to (or1_skip (n := N) hw) (Nat.le_refl _))
            obtain ⟨wc, hwc⟩ : ∃ wc, wt c = wc := ⟨_, rfl⟩
            have HWC := hide hwc
            have hss : ((wc : Int) != (s : Int)) = true := by rw [bne_iff_ne]; omega
            clear hc hw hwc
            go_wp2_with (go_at_call 93; refine (ones_was c wc _ (by omega) HWC.out).mono ?_; rintro e w' ⟨rfl, rfl⟩)
            go_roundw
            case rel => exact ⟨c + 1, by omega, by go_num, HC.out.to rfl (by omega)⟩
            case measure => simp only [intOf]; omega
        · obtain rfl : c = Q := by omega
          have HC := hide (hc.to (l' := or0 N (s + 1)) (K' := (s + 1) * 256) (by rw [HQ.out]; exact (or1_end N s).symm) (by omega))
          clear hc
          go_wp2
          go_roundw
          case rel => exact ⟨s + 1, by omega, by go_num, HC.out⟩
          case measure => simp only [intOf]; omega
    · obtain rfl : s = N + 1 := by omega
      have HC := hide hc
      clear hc
      go_wp2
      go_ret
      exact ⟨_, rfl, HC.out.1, HC.out.2.2⟩
end Go.Proofs.Ytbmodiobgkmngaa

/- CrP: CriticalParts of the model. -/
namespace Go.Proofs.Ytbmodiobgkmngaa
open Go.RowKit Go.Joins

/-- what CriticalParts answers -/
def crR (n : Int) (zs : List Int) : List (Int × Int) := if vsB n zs = true then ofP (critL n.toNat zs) else []
theorem crR_no {n : Int} {zs : List Int} (h : vsB n zs = false) : crR n zs = [] := by unfold crR; rw [if_neg (by rw [h]; simp)]
theorem crR_yes {n : Int} {zs : List Int} (h : vsB n zs = true) : crR n zs = ofP (critL n.toNat zs) := if_pos h
theorem OwnsP.le {w : World} {base base' : Nat} {v : Value} {ps : List (Int × Int)} (h : OwnsP w base v ps) (hb : base' ≤ base) : OwnsP w base' v ps := ownsRow_le h hb
/-- a slice of parts of its own memory -/
def GivesP (ps : List (Int × Int)) (w : World) (e : Ending) (w' : World) : Prop := ∃ v, e = .returned v ∧ OwnsP w' w.heap.size v ps ∧ Below w.heap.size w w'
end Go.Proofs.Ytbmodiobgkmngaa

/- PtS: The laws' helpers on slices of parts: equality, marks. -/
namespace Go.Proofs.Ytbmodiobgkmngaa
open Go.RowKit Go.Joins

theorem OwnsP.pints {w : World} {base n cap : Nat} {a : Option Addr} {ps : List (Int × Int)} (h : OwnsP w base (.slice a n cap) ps) : PInts w a ps := by
  obtain ⟨a', cap', e, hi⟩ := h.form
  simp only [Value.slice.injEq] at e
  obtain ⟨rfl, _, _⟩ := e
  exact hi
theorem pown_ge {w : World} {base : Nat} {v : Value} {ps : List (Int × Int)} (h : OwnsP w base v ps) : ∀ k, v.ownBlock = some k → base ≤ k ∧ k < w.heap.size := fun k hk => World.ownsRow.lt h k hk
theorem pown_kept {w w' : World} {base : Nat} {v : Value} {ps : List (Int × Int)} {row : Option Nat} (h : OwnsP w base v ps) (hg : w.grownBy w' row) (hne : ∀ k, row = some k → v.ownBlock ≠ some k) : OwnsP w' base v ps := by
  have h' : w.ownsRow base 79 2 v ps.length (pflat ps) := h
  refine World.ownsRow.kept h' hg ?_
  rcases hv : v.ownBlock with _ | g
  · exact .inl rfl
  · right
    intro e
    exact hne g e.symm hv
def pmarks (k : Int) (n : Nat) : List (Int × Int) := (List.range n).map fun (i : Nat) => (k + 2 * (i : Int), k + 2 * (i : Int) + 1)
theorem pmarks_length (k : Int) (n : Nat) : (pmarks k n).length = n := by simp [pmarks]
theorem pmarks_getD (k : Int) (n i : Nat) (h : i < n) : (pmarks k n).getD i (0, 0) = (k + 2 * (i : Int), k + 2 * (i : Int) + 1) := by
  simp [pmarks, List.getD_eq_getElem?_getD, h]
theorem parts_ext {xs ys : List (Int × Int)} (hl : xs.length = ys.length) (h : ∀ j, j < xs.length → xs.getD j (0, 0) = ys.getD j (0, 0)) : xs = ys := by
  refine List.ext_getElem hl fun i h1 h2 => ?_
  have := h i h1
  rwa [pgetD_lt h1, pgetD_lt h2] at this
theorem pflat_set : ∀ (ps : List (Int × Int)) (j : Nat) (c b : Int), j < ps.length → pflat (ps.set j (c, b)) = ((pflat ps).set (j * 2) (.int .i64 c)).set (j * 2 + 1) (.int .i64 b)
  | [], j, _, _, h => by simp at h
  | p :: ps, 0, c, b, _ => rfl
  | p :: ps, j + 1, c, b, h => by
    have ih := pflat_set ps j c b (by simpa using h)
    rw [List.set_cons_succ, pflat_cons, pflat_cons, ih, show (j + 1) * 2 = j * 2 + 1 + 1 from by omega]
    rfl

end Go.Proofs.Ytbmodiobgkmngaa

/- CrI: CriticalParts of the program. -/
namespace Go.Proofs.Ytbmodiobgkmngaa
open Go.RowKit Go.Joins Go.ChangeMaps Go.MapKept Go.WideShapes
open Go.Maps (Keyed)

/-- the call's own map of parts -/
def OM (b n : Nat) (f : Nat × Nat → Bool) (w : World) : Prop := ∃ D : DataW Unit, w.ownsMap Try.prog 79 (plainElem Try.prog 4) b n D ∧ MapIs D f ∧ KeysIn D
theorem OM.below {b n : Nat} {f : Nat × Nat → Bool} {w w' : World} (h : OM b n f w) (hb : Below w.heap.size w w') : OM b n f w' := by
  obtain ⟨D, h1, h2, h3⟩ := h
  exact ⟨D, h1.kept (grown_of hb) (by simp), h2, h3⟩
theorem OM.grown {b n : Nat} {f : Nat × Nat → Bool} {w w' : World} {row : Option Nat} (h : OM b n f w) (hg : w.grownBy w' row) (hne : some b ≠ row) : OM b n f w' := by
  obtain ⟨D, h1, h2, h3⟩ := h
  exact ⟨D, h1.kept hg hne, h2, h3⟩
theorem OM.congr {b n : Nat} {f g : Nat × Nat → Bool} {w : World} (h : OM b n f w) (e : ∀ q : Nat × Nat, q.1 < 16 → q.2 < 16 → f q = g q) : OM b n g w := by
  obtain ⟨D, h1, h2, h3⟩ := h
  exact ⟨D, h1, h2.congr e, h3⟩
theorem OM.lt {b n : Nat} {f : Nat × Nat → Bool} {w : World} (h : OM b n f w) : b < w.heap.size := by
  obtain ⟨D, h1, _⟩ := h
  exact h1.lt
theorem OM.made (w : World) : OM w.heap.size 0 (fun _ => false) (w.alloc (.map #[] 0)) := ⟨_, World.ownsMap_made w _ _ _, MapIs.empty, KeysIn.empty⟩
theorem zero_bool (w : World) : (zeroValue 4).run Try.prog w = .ok (.bool false) w := by kernel_rfl
theorem OM.look {b n : Nat} {f : Nat × Nat → Bool} {w : World} (h : OM b n f w) {c k : Nat} (hc : c < 16) (hk : k < 16) : (Instr.lookup 91 (.map (some b)) (.agg #[.int .i64 c, .int .i64 k]) false).run Try.prog w = .ok (.bool (f (c, k))) w := by
  obtain ⟨D, h1, h2, _⟩ := h
  obtain ⟨x, hx, hD⟩ := lookup_bool h1 part_keyed Try.underlying91 Try.underlying4 (zero_bool w) (part_key _ _ (wf_16 c hc) (wf_16 k hk))
  rw [hx]
  have e := h2.2 (c, k) hc hk
  rw [hD] at e
  have e2 : x = f (c, k) := by
    have e3 := DataW.lit.inj e
    exact Lit.bool.inj e3
  rw [e2]
theorem dropGreater_om (b n : Nat) (f : Nat × Nat → Bool) (pc pb : Nat) (w : World) (hp1 : pc < 16) (hp2 : pb < 16) (h : OM b n f w) :
    Calls Try.prog 87 #[.map (some b), .agg #[.int .i64 pc, .int .i64 pb]] w fun e w' => e = .returned (.tuple #[]) ∧ OM b n (fun q => f q && !gtP (pc, pb) q) w' ∧ w.grownBy w' (some b) := by
  obtain ⟨D, h1, h2, h3⟩ := h
  exact (dropGreater_any b n D f pc pb w hp1 hp2 h1 h2 h3).mono fun e w' ⟨he, hD, hg⟩ => ⟨he, hD, hg⟩
/-- what the map holds when the first k parts have been looked at -/
def seenB (n : Nat) (zs : List Int) (k : Nat) (q : Nat × Nat) : Bool := ((ordL n).take k).contains q && !opn zs q
theorem seen_zero (n : Nat) (zs : List Int) (q : Nat × Nat) : seenB n zs 0 q = false := by unfold seenB; simp
theorem seen_end (n : Nat) (zs : List Int) (q : Nat × Nat) : seenB n zs (ordL n).length q = stillB n zs 0 q := by rw [still_zero]; unfold seenB; rw [List.take_length]
theorem take_mem {n k : Nat} (hk : k < (ordL n).length) (q : Nat × Nat) : ((ordL n).take (k + 1)).contains q = (((ordL n).take k).contains q || decide (q = (ordL n)[k])) := by
  rw [Bool.eq_iff_iff, Bool.or_eq_true, decide_eq_true_iff, List.contains_iff_mem, List.contains_iff_mem, List.take_add_one, List.getElem?_eq_getElem hk, List.mem_append]
  simp only [Option.toList_some, List.mem_singleton]
theorem seen_open {n : Nat} {zs : List Int} {k : Nat} (hk : k < (ordL n).length) (h : opn zs (ordL n)[k] = true) (q : Nat × Nat) : seenB n zs (k + 1) q = seenB n zs k q := by
  unfold seenB
  rw [take_mem hk]
  by_cases e : q = (ordL n)[k]
  · rw [e, h, Bool.not_true, Bool.and_false, Bool.and_false]
  · rw [decide_eq_false e, Bool.or_false]
theorem seen_closed {n : Nat} {zs : List Int} {k : Nat} (hk : k < (ordL n).length) (h : opn zs (ordL n)[k] = false) (q : Nat × Nat) : (if q = (ordL n)[k] then true else seenB n zs k q) = seenB n zs (k + 1) q := by
  unfold seenB
  rw [take_mem hk]
  by_cases e : q = (ordL n)[k]
  · rw [if_pos e, e, h]; simp
  · rw [if_neg e, decide_eq_false e, Bool.or_false]
theorem still_step {n : Nat} {zs : List Int} {k : Nat} (hk : k < (ordL n).length) (h : crB n zs (ordL n)[k] = true) (q : Nat × Nat) : stillB n zs (k + 1) q = (stillB n zs k q && !gtP (ordL n)[k] q) := still_yes hk h
theorem ord_16 {n : Nat} (hn : n ≤ 4) {p : Nat × Nat} (hp : p ∈ ordL n) : p.1 < 16 ∧ p.2 < 16 := by
  have hf := ord_facts hn hp
  have p2 : 2 ^ n ≤ 16 := Nat.pow_le_pow_right (n := 2) (by omega) hn
  have hb : p.2 ≤ p.1 := by rw [← hf.2.1]; exact Nat.and_le_right
  exact ⟨by omega, by omega⟩
set_option maxRecDepth 100000 in
theorem ord_len : range5 (fun n => decide ((ordL n).length ≤ 81)) = true := by decide +kernel
theorem OM.put {b n : Nat} {f : Nat × Nat → Bool} {D : DataW Unit} {w : World} {c k : Nat} (h1 : w.ownsMap Try.prog 79 (plainElem Try.prog 4) b n (D.put (litP (c : Int) (k : Int)) (.lit (.bool true)))) (h2 : MapIs D f) (h3 : KeysIn D) (hc : c < 16) (hk : k < 16) :
    OM b n (fun q => if q = (c, k) then true else f q) w := ⟨_, h1, h2.put (q := (c, k)) hc hk true, h3.put (q := (c, k)) hc hk _⟩
theorem ofP_at {l : List (Nat × Nat)} {k : Nat} (hk : k < l.length) : (ofP l).getD k (0, 0) = ((l[k].1 : Int), (l[k].2 : Int)) := by
  unfold ofP
  rw [List.getD_eq_getElem?_getD, List.getElem?_map, List.getElem?_eq_getElem hk]
  rfl
theorem ofP_len (l : List (Nat × Nat)) : (ofP l).length = l.length := List.length_map _
/-- the critical parts among the first k -/
def tookP (n : Nat) (zs : List Int) (k : Nat) : List (Nat × Nat) := ((ordL n).take k).filter (crB n zs)
theorem took_yes {n : Nat} {zs : List Int} {k : Nat} (hk : k < (ordL n).length) (h : crB n zs (ordL n)[k] = true) : tookP n zs (k + 1) = tookP n zs k ++ [(ordL n)[k]] := by
  unfold tookP
  rw [filter_takeP n zs hk, if_pos h]
theorem took_no {n : Nat} {zs : List Int} {k : Nat} (hk : k < (ordL n).length) (h : crB n zs (ordL n)[k] = false) : tookP n zs (k + 1) = tookP n zs k := by
  unfold tookP
  rw [filter_takeP n zs hk, if_neg (by rw [h]; simp), List.append_nil]
theorem took_all (n : Nat) (zs : List Int) : tookP n zs (ordL n).length = critL n zs := by
  unfold tookP critL
  rw [List.take_length]
theorem took_len (n : Nat) (zs : List Int) (k : Nat) : (tookP n zs k).length ≤ k := by
  unfold tookP
  exact Nat.le_trans (List.length_filter_le _ _) (List.length_take_le _ _)
/-- the map as the first loop has it -/
def SeenI (W : World) (N : Nat) (zs : List Int) (k : Nat) (wq : World) : Prop := Below W.heap.size W wq ∧ OM W.heap.size k (seenB N zs k) wq
/-- the map and the list as the second loop has them -/
def TookI (W : World) (N : Nat) (zs : List Int) (k : Nat) (v : Value) (wq : World) : Prop :=
  Below W.heap.size W wq ∧ OM W.heap.size 81 (stillB N zs k) wq ∧ OwnsP wq (W.heap.size + 1) v (ofP (tookP N zs k))
theorem OM.more {b n m : Nat} {f : Nat × Nat → Bool} {w : World} (h : OM b n f w) (hm : n ≤ m) : OM b m f w := by
  obtain ⟨D, h1, h2⟩ := h
  exact ⟨D, h1.mono hm, h2⟩
theorem implValid_was (n : Int) (a : Option Addr) (cap : Nat) (zs : List Int) (w : World) (r : Bool) (hi : Ints w a zs) (hn : zs.length ≤ 1048576) (hr : vsB n zs = r) :
    Calls Try.prog 9 #[.agg #[.int .i64 n, .slice a zs.length cap]] w fun e w' => e = .returned (.bool r) ∧ Below w.heap.size w w' := by
  subst hr
  exact implValidSpace_any n a cap zs w hi hn
theorem openAsker1_was (n c b : Int) (a : Option Addr) (cap g : Nat) (zs : List Int) (w : World) (r : Bool) (hi : Ints w a zs) (hn : zs.length ≤ 1048576) (bx : Box w g n a zs.length cap) (hr : ∀ x ∈ zs, 0 ≤ x ∧ x ≤ 15) (hc : 0 ≤ c ∧ c ≤ 15) (hb : 0 ≤ b) (ho : openB zs c b = r) :
    Calls Try.prog 94 #[.agg #[.int .i64 c, .int .i64 b], .pointer (some ⟨g, 0, none⟩)] w fun e w' => e = .returned (.bool r) ∧ Below w.heap.size w w' := by
  subst ho
  exact openAsker1_any n c b a cap g zs w hi hn bx hr hc hb

set_option maxHeartbeats 4000000 in
set_option maxRecDepth 100000 in
theorem implCriticalParts_any (n : Int) (a : Option Addr) (cap : Nat) (zs : List Int) (w : World) (hi : Ints w a zs) (hn : zs.length ≤ 1048576) :
    Calls Try.prog 71 #[.agg #[.int .i64 n, .slice a zs.length cap]] w (GivesP (crR n zs) w) := by
  obtain ⟨j0, hj0, hy0, hy1, hy2⟩ := info_parts info_part
  have S0 := SV.new w n a zs cap none [] 25 hi (Ints.nil _ _)
  clear hi
  obtain ⟨⟨_, c0, c1⟩, _⟩ := S0.pair
  by_cases hv : vsB n zs = false
  · have HV := hide (crR_no hv)
    have HVV := hide hv
    clear hv
    go_enter Try.func71, Try.ntmps71
    go_wp2_with fail
    refine (implValid_was _ _ _ _ _ false S0.2.1 hn HVV.out).mono ?_
    rintro e w1 ⟨rfl, hb⟩
    go_wp2
    go_ret
    exact ⟨_, rfl, by rw [HV.out]; exact World.ownsRow_nil _ _ _ _, (S0.below hb).2.2.2⟩
  · have hv : vsB n zs = true := by simpa using hv
    have HVV := hide hv
    have HV := hide (crR_yes hv)
    have hV := valid_of hv
    have HR := hide (valid_range hV)
    have hN4 := hV.1
    obtain ⟨N, hN⟩ : ∃ N : Nat, n = (N : Int) := ⟨n.toNat, by omega⟩
    subst hN
    have hN : 1 ≤ N ∧ N ≤ 4 := by omega
    have hol : (ordL N).length ≤ 81 := by simpa using range5_of ord_len hN.2
    have HOL := hide hol
    have HO := hide (ofP_len (ordL N))
    have hmm := fun w => @run_makeMap Try.prog 91 w
    clear hV hN4 hv hol
    go_enter Try.func71, Try.ntmps71
    go_wp2_with fail
    refine (implValid_was _ _ _ _ _ true S0.2.1 hn HVV.out).mono ?_
    rintro e w1 ⟨rfl, hb⟩
    have S1 := S0.below hb
    clear c0 c1 S0 hb
    obtain ⟨⟨_, c0, c1⟩, _⟩ := S1.pair
    go_wp2_with fail
    refine (partsInOrder_any N _ hN).mono ?_
    rintro e w2 ⟨v, rfl, own2, hb2⟩
    obtain ⟨av, cv, rfl, _⟩ := own2.form
    have S2 := S1.below hb2
    clear c0 c1 S1 hb2
    obtain ⟨⟨_, c0, c1⟩, _⟩ := S2.pair
    go_wp2_with fail
    refine (openAsker_any _ _ _ _ _).mono ?_
    rintro e w3 ⟨rfl, rfl⟩
    have bel := bel1 w2 (.cells #[.int .i64 (N : Int), .slice a zs.length cap] 25)
    have own3 := own2.below bel
    have S3 := S2.below bel
    have bx3 := Box.new w2 (N : Int) a zs.length cap 25
    obtain ⟨W, hW⟩ : ∃ W : World, W = w2.alloc (.cells #[.int .i64 (N : Int), .slice a zs.length cap] 25) := ⟨_, rfl⟩
    rw [← hW] at own3 S3 bx3 ⊢
    have hwW := hide (show w.heap.size ≤ W.heap.size from S3.2.2.2.size)
    have M0 : SeenI W N zs 0 (W.alloc (.map #[] 0)) := ⟨bel1 W _, (OM.made W).congr (fun q _ _ => (seen_zero N zs q).symm)⟩
    have HW := hide hW
    have HS := hide S3
    have HB := hide bx3
    have HOW := hide own3
    clear bel own2 own3 S2 S3 bx3 c0 c1 hW
    go_wp2_with fail
    go_loopw [22] (fun i wr => ∃ k : Nat, k ≤ (ofP (ordL N)).length ∧ i = .int .i64 k ∧ SeenI W N zs k wr) (fun i _ => (ofP (ordL N)).length - (intOf i).toNat)
    case atStart => exact ⟨0, Nat.zero_le _, rfl, M0⟩
    case round =>
      clear M0
      obtain ⟨k, hk, rfl, hs⟩ := hrel
      have hp := (HOW.out.below hs.1).pints
      by_cases hlt : k < (ofP (ordL N)).length
      · have hlt' : k < (ordL N).length := by rw [← HO.out]; exact hlt
        have hk81 : k < 81 := by have := HOL.out; omega
        obtain ⟨bb, off, rfl, hbl, hc⟩ := hp (by omega)
        obtain ⟨h1, h2⟩ := hc k hlt
        rw [ofP_at hlt'] at h1 h2
        have h16 := ord_16 hN.2 (List.getElem_mem hlt')
        obtain ⟨pc, hpc⟩ : ∃ pc, pc = (ordL N)[k].1 := ⟨_, rfl⟩
        obtain ⟨pb, hpb⟩ : ∃ pb, pb = (ordL N)[k].2 := ⟨_, rfl⟩
        have hpp : (ordL N)[k] = (pc, pb) := by rw [hpc, hpb]
        rw [← hpc, ← hpb] at h16
        simp only [← hpc] at h1
        simp only [← hpb] at h2
        have HPP := hide hpp
        have b5 := bel1 wr (.cells #[.int .i64 (pc : Int), .int .i64 (pb : Int)] 79)
        have H5 := hide (hs.1.trans (b5.mono hs.1.size))
        have M5 := hide (hs.2.below b5)
        have px := PBox.new wr (pc : Int) (pb : Int) 79
        have PX := hide px
        obtain ⟨_, p0, p1⟩ := px
        have h15 : Hid (((0 : Int) ≤ (pc : Int) ∧ (pc : Int) ≤ 15) ∧ (0 : Int) ≤ (pb : Int)) := ⟨⟨by omega, by omega⟩, by omega⟩
        have HLT' := hide hlt'
        have hnn : k < maxLen := by have := HOL.out; have := HO.out; unfold maxLen; omega
        clear hc hp hpc hpb hpp b5
        cases hop : opn zs (pc, pb) with
        | true =>
          have hop' : Hid (openB zs (pc : Int) (pb : Int) = true) := hop
          have HOP : Hid (opn zs (ordL N)[k] = true) := (congrArg (opn zs) HPP.out).trans hop
          have HS5 := hide hs
          clear hop hs
          go_wp2_with fail
          refine (openAsker1_was (N : Int) _ _ a cap _ zs _ true (HS.out.2.1.below H5.out) hn (HB.out.below H5.out) HR.out h15.out.1 h15.out.2 hop'.out).mono ?_
          rintro e w6 ⟨rfl, b6⟩
          have H6 : Hid (SeenI W N zs (k + 1) w6) := ⟨H5.out.trans (b6.mono H5.out.size), ((M5.out.below b6).more (Nat.le_succ k)).congr (fun q _ _ => (seen_open HLT'.out HOP.out q).symm)⟩
          go_wp2
          go_roundw
          case rel => exact ⟨k + 1, by omega, by go_num, H6.out⟩
          case measure => simp only [intOf]; omega
        | false =>
          have hop' : Hid (openB zs (pc : Int) (pb : Int) = false) := hop
          have HOP : Hid (opn zs (ordL N)[k] = false) := (congrArg (opn zs) HPP.out).trans hop
          clear hop hs
          go_wp2_with fail
          refine (openAsker1_was (N : Int) _ _ a cap _ zs _ false (HS.out.2.1.below H5.out) hn (HB.out.below H5.out) HR.out h15.out.1 h15.out.2 hop'.out).mono ?_
          rintro e w6 ⟨rfl, b6⟩
          obtain ⟨D, hown6, hm6, hk6⟩ := M5.out.below b6
          have H6 := hide (H5.out.trans (b6.mono H5.out.size))
          obtain ⟨_, u0, u1⟩ := PX.out.below b6
          have HM6 := hide hm6
          have HK6 := hide hk6
          clear p0 p1 b6 hm6 hk6
          go_wp2_with (first
            | (at_mapUpdate; refine wpList_mapUpdate_own _ rfl _ _ _ 91 rfl 79 4 part_keyed Try.underlying91 _ W.heap.size k D rfl hown6 hnn _ _ _ rfl rfl (part_key _ _ (wf_16 pc h16.1) (wf_16 pb h16.2)) (.lit (.bool true)) [] (plainElem_bool Try.underlying4 true) ?_; intro w7 hown7 hgrow7)
            | go_in)
          have H7 : Hid (SeenI W N zs (k + 1) w7) := ⟨bgrown H6.out hgrow7 H6.out.size (fun j hj => by cases hj; exact Nat.le_refl _), (OM.put hown7 HM6.out HK6.out h16.1 h16.2).congr (fun q _ _ => (congrArg (fun z => if q = z then true else seenB N zs k q) HPP.out.symm).trans (seen_closed HLT'.out HOP.out q))⟩
          clear hown6 hown7 hgrow7 u0 u1
          go_wp2
          go_roundw
          case rel => exact ⟨k + 1, by omega, by go_num, H7.out⟩
          case measure => simp only [intOf]; omega
      · obtain rfl : k = (ofP (ordL N)).length := by omega
        have T0 : TookI W N zs 0 (.slice none 0 0) wr := ⟨hs.1, (hs.2.more (by rw [HO.out]; exact HOL.out)).congr (fun q _ _ => by rw [HO.out]; exact seen_end N zs q), World.ownsRow_nil _ _ _ _⟩
        clear hs hp hmm
        go_wp2_with fail
        go_loopw [8, 35] (fun v i wr => ∃ k : Nat, k ≤ (ofP (ordL N)).length ∧ i = .int .i64 k ∧ TookI W N zs k v wr) (fun _ i _ => (ofP (ordL N)).length - (intOf i).toNat)
        case atStart => exact ⟨0, Nat.zero_le _, rfl, T0⟩
        case round =>
          clear T0
          obtain ⟨k, hk, rfl, hs⟩ := hrel
          have hp := (HOW.out.below hs.1).pints
          obtain ⟨va, vc, rfl, _⟩ := hs.2.2.form
          by_cases hlt : k < (ofP (ordL N)).length
          · have hlt' : k < (ordL N).length := by rw [← HO.out]; exact hlt
            have hk81 : k < 81 := by have := HOL.out; omega
            obtain ⟨bb, off, rfl, hbl, hc⟩ := hp (by omega)
            obtain ⟨h1, h2⟩ := hc k hlt
            rw [ofP_at hlt'] at h1 h2
            have h16 := ord_16 hN.2 (List.getElem_mem hlt')
            obtain ⟨pc, hpc⟩ : ∃ pc, pc = (ordL N)[k].1 := ⟨_, rfl⟩
            obtain ⟨pb, hpb⟩ : ∃ pb, pb = (ordL N)[k].2 := ⟨_, rfl⟩
            have hpp : (ordL N)[k] = (pc, pb) := by rw [hpc, hpb]
            rw [← hpc, ← hpb] at h16
            simp only [← hpc] at h1
            simp only [← hpb] at h2
            have HPP := hide hpp
            have b5 := bel1 wr (.cells #[.int .i64 (pc : Int), .int .i64 (pb : Int)] 79)
            have H5 := hide (hs.1.trans (b5.mono hs.1.size))
            have hlook := (hs.2.1.below b5).look h16.1 h16.2
            have M5 := hide (hs.2.1.below b5)
            have px := PBox.new wr (pc : Int) (pb : Int) 79
            have PX := hide px
            obtain ⟨_, p0, p1⟩ := px
            have HLT' := hide hlt'
            have hst : stillB N zs k (pc, pb) = crB N zs (pc, pb) := (congrArg (stillB N zs k) hpp.symm).trans ((still_turn hN.2 (zs := zs) hlt').trans (congrArg (crB N zs) hpp))
            rw [hst] at hlook
            cases hcr : crB N zs (pc, pb) with
            | false =>
              have HCR : Hid (crB N zs (ordL N)[k] = false) := (congrArg (crB N zs) HPP.out).trans hcr
              have H6 : Hid (TookI W N zs (k + 1) (.slice va (ofP (tookP N zs k)).length vc) (wr.alloc (.cells #[.int .i64 (pc : Int), .int .i64 (pb : Int)] 79))) :=
                ⟨H5.out, M5.out.congr (fun q _ _ => (still_no HLT'.out HCR.out).symm), by rw [took_no HLT'.out HCR.out]; exact hs.2.2.below b5⟩
              rw [hcr] at hlook
              clear hc hp hpc hpb hpp b5 hst hcr hs
              go_wp2
              go_roundw
              case rel => exact ⟨k + 1, by omega, by go_num, H6.out⟩
              case measure => simp only [intOf]; omega
            | true =>
              have HCR : Hid (crB N zs (ordL N)[k] = true) := (congrArg (crB N zs) HPP.out).trans hcr
              rw [hcr] at hlook
              have hop := hs.2.2.below b5
              have hop' : (wr.alloc (.cells #[.int .i64 (pc : Int), .int .i64 (pb : Int)] 79)).ownsRow (W.heap.size + 1) 79 2 (.slice va (ofP (tookP N zs k)).length vc) (ofP (tookP N zs k)).length (pflat (ofP (tookP N zs k))) := hop
              have hol : (ofP (tookP N zs k)).length ≤ 81 := by
                rw [ofP_len]
                have := took_len N zs k
                have := HOL.out
                omega
              have hws := H5.out.size
              have hwb := HOW.out
              have HS' := hide hs
              have hvl := hide (fun j hj => (pown_ge hs.2.2 j hj))
              have hWlt : W.heap.size + 1 ≤ wr.heap.size := hs.2.1.lt
              clear hc hp hpc hpb hpp b5 hst hcr hs hwb
              go_wp2_with (first
                | (at_builtin; refine wpList_append_own _ rfl _ _ 76 rfl (W.heap.size + 1) 79 j0 (.agg #[.int .i64 0, .int .i64 0]) 2 16 Try.underlying76 hj0 hy0 hy1 hy2 rfl (by decide) _ _ _ rfl (hop'.alloc _) ⟨wr.heap.size + 1, 0, none⟩ 1 1 [.int .i64 (pc : Int), .int .i64 (pb : Int)] rfl rfl (by have hh := World.news_of_block (cs := #[.int .i64 (pc : Int), .int .i64 (pb : Int)]) (t := 79) (fr := (0, 0)) (heap_alloc_new (wr.alloc (.cells #[.int .i64 (pc : Int), .int .i64 (pb : Int)] 79)) _); simp only [World.size_alloc] at hh; exact hh) (by intro u hu; simp at hu; rcases hu with rfl | rfl <;> rfl) (by unfold maxLen; omega) (by first | omega | (simp; omega)) (by first | omega | (simp; omega)) ?_)
                | fail)
              intro v' w6 hown' hgrow _
              have hHop : OwnsP wr (W.heap.size + 1) (.slice va (ofP (tookP N zs k)).length vc) (ofP (tookP N zs k)) := HS'.out.2.2
              have hrow : ∀ j, (Value.slice va (ofP (tookP N zs k)).length vc).ownBlock = some j → W.heap.size + 1 ≤ j ∧ j < wr.heap.size := fun j hj => hvl.out j hj
              have h7a := (bel1 (wr.alloc (.cells #[.int .i64 (pc : Int), .int .i64 (pb : Int)] 79)) (.cells #[.int .i64 (pc : Int), .int .i64 (pb : Int)] 79))
              have M7 := hide ((M5.out.below h7a).grown hgrow (fun e => by have := hrow _ e.symm; omega))
              have P7 := hide ((PX.out.below h7a).grown hgrow (fun e => by have := hrow _ e.symm; omega))
              have B7 := hide (bgrown (H5.out.trans (h7a.mono H5.out.size)) hgrow (H5.out.trans (h7a.mono H5.out.size)).size (fun j hj => by have := hrow j hj; omega))
              have V7 : OwnsP w6 (W.heap.size + 1) v' (ofP (tookP N zs k) ++ [((pc : Int), (pb : Int))]) := OwnsP.push hown'
              have e7 : ofP (tookP N zs k) ++ [((pc : Int), (pb : Int))] = ofP (tookP N zs (k + 1)) := by
                rw [took_yes HLT'.out HCR.out]
                unfold ofP
                rw [List.map_append]
                exact congrArg (fun z : Nat × Nat => _ ++ [((z.1 : Int), (z.2 : Int))]) HPP.out.symm
              rw [e7] at V7
              obtain ⟨qa, qc, rfl, _⟩ := V7.form
              have HV7 := hide V7
              obtain ⟨_, r0, r1⟩ := P7.out
              clear hop hop' hown' hgrow V7 e7 h7a hHop p0 p1 hlook
              go_wp2_with fail
              refine (dropGreater_om W.heap.size 81 _ pc pb _ h16.1 h16.2 M7.out).mono ?_
              rintro e w8 ⟨rfl, M8, g8⟩
              have H8 : Hid (TookI W N zs (k + 1) (.slice qa (ofP (tookP N zs (k + 1))).length qc) w8) :=
                ⟨bgrown B7.out g8 B7.out.size (fun j hj => by cases hj; exact Nat.le_refl _), M8.congr (fun q _ _ => ((still_step HLT'.out HCR.out q).trans (congrArg (fun z => stillB N zs k q && !gtP z q) HPP.out)).symm), HV7.out.other g8 (fun g e => by cases e; exact Nat.lt_succ_self _)⟩
              clear M8 g8 r0 r1
              go_wp2
              go_roundw
              case rel => exact ⟨k + 1, by omega, by go_num, H8.out⟩
              case measure => simp only [intOf]; omega
          · obtain rfl : k = (ofP (ordL N)).length := by omega
            have HT := hide hs
            clear hs hp
            go_wp2
            go_ret
            refine ⟨_, rfl, ?_, bnext HS.out.2.2.2 (HT.out.1.mono (Nat.le_refl _))⟩
            have e1 : crR (N : Int) zs = ofP (tookP N zs (ofP (ordL N)).length) := by rw [HV.out, Int.toNat_natCast, HO.out, took_all]
            rw [e1]
            exact HT.out.2.2.le (Nat.le_succ_of_le hwW.out)
theorem crR_81 (n : Int) (zs : List Int) : (crR n zs).length ≤ 81 := by
  rcases Bool.eq_false_or_eq_true (vsB n zs) with h | h
  · have hV := valid_of h
    have hN := hV.1
    rw [crR_yes h, ofP_len]
    have h1 : (ordL n.toNat).length ≤ 81 := by simpa using range5_of ord_len (n := n.toNat) (by omega)
    exact Nat.le_trans (List.length_filter_le _ _) h1
  · rw [crR_no h]
    simp
theorem crR_len (n : Int) (zs : List Int) : (crR n zs).length ≤ 1048576 := Nat.le_trans (crR_81 n zs) (by omega)
end Go.Proofs.Ytbmodiobgkmngaa

/- LdM: Leads: plain mathematics, and rows of leads in memory. -/
namespace Go.Proofs.Ytbmodiobgkmngaa
open Go.RowKit Go.Joins

def ci (l : List Nat) : List Int := l.map fun (x : Nat) => (x : Int)
theorem ci_len (l : List Nat) : (ci l).length = l.length := List.length_map _
theorem ci_at {l : List Nat} {k : Nat} (hk : k < l.length) : (ci l).getD k 0 = (l.getD k 0 : Nat) := by
  unfold ci
  rw [List.getD_eq_getElem?_getD, List.getElem?_map, List.getD_eq_getElem?_getD, List.getElem?_eq_getElem hk]
  rfl
theorem ci_set (l : List Nat) (k y : Nat) : ci (l.set k y) = (ci l).set k (y : Int) := by unfold ci; rw [List.map_set]
def upd (r : List Nat) (f t : Nat) : List Nat := r.set f (r.getD f 0 ||| 2 ^ t)
/-- the place of the answer of a part to an issue, and that of the other answer -/
def plc (m : Nat × Nat) (j : Nat) : Nat := 2 * j + bitN m.2 j
def opp (m : Nat × Nat) (k : Nat) : Nat := 2 * k + 1 - bitN m.2 k
def condK (m : Nat × Nat) (j k : Nat) : Bool := (j != k) && ((bitN m.1 j == 1) && (bitN m.1 k == 1))
def stK (m : Nat × Nat) (j kk : Nat) (r : List Nat) : List Nat := (List.range kk).foldl (fun r k => if condK m j k = true then upd r (plc m j) (opp m k) else r) r
def stJ (N : Nat) (m : Nat × Nat) (jj : Nat) (r : List Nat) : List Nat := (List.range jj).foldl (fun r j => stK m j N r) r
def stI (N : Nat) (L : List (Nat × Nat)) (ii : Nat) : List Nat := (L.take ii).foldl (fun r m => stJ N m N r) (List.replicate (2 * N) 0)
theorem stK_yes {m : Nat × Nat} {j k : Nat} {r : List Nat} (h : condK m j k = true) : stK m j (k + 1) r = upd (stK m j k r) (plc m j) (opp m k) := by
  unfold stK; rw [List.range_succ, List.foldl_append]; simp [h]
theorem stK_no {m : Nat × Nat} {j k : Nat} {r : List Nat} (h : condK m j k = false) : stK m j (k + 1) r = stK m j k r := by
  unfold stK; rw [List.range_succ, List.foldl_append]; simp [h]
theorem stJ_succ (N : Nat) (m : Nat × Nat) (j : Nat) (r : List Nat) : stJ N m (j + 1) r = stK m j N (stJ N m j r) := by
  unfold stJ; rw [List.range_succ, List.foldl_append]; rfl
theorem stI_succ {N : Nat} {L : List (Nat × Nat)} {i : Nat} (hi : i < L.length) : stI N L (i + 1) = stJ N L[i] N (stI N L i) := by
  unfold stI; rw [List.take_add_one, List.getElem?_eq_getElem hi, List.foldl_append]; rfl
/-- the places of a part's answers -/
def PL (N : Nat) (m : Nat × Nat) : List Nat := ((List.range N).filter fun j => bitN m.1 j == 1).map (plc m)
def prV (P : List Nat) (f vv : Nat) (r : List Nat) : List Nat := (P.take vv).foldl (fun r o => if (f != o) = true then upd r f (o ^^^ 1) else r) r
def prU (P : List Nat) (uu : Nat) (r : List Nat) : List Nat := (P.take uu).foldl (fun r f => prV P f P.length r) r
theorem prV_yes {P : List Nat} {f v : Nat} {r : List Nat} (hv : v < P.length) (h : (f != P[v]) = true) : prV P f (v + 1) r = upd (prV P f v r) f (P[v] ^^^ 1) := by
  unfold prV; rw [List.take_add_one, List.getElem?_eq_getElem hv, List.foldl_append]
  simp only [Option.toList_some, List.foldl_cons, List.foldl_nil]
  rw [if_pos h]
theorem prV_no {P : List Nat} {f v : Nat} {r : List Nat} (hv : v < P.length) (h : (f != P[v]) = false) : prV P f (v + 1) r = prV P f v r := by
  unfold prV; rw [List.take_add_one, List.getElem?_eq_getElem hv, List.foldl_append]
  simp only [Option.toList_some, List.foldl_cons, List.foldl_nil]
  rw [if_neg (by rw [h]; simp)]
theorem prU_succ {P : List Nat} {u : Nat} {r : List Nat} (hu : u < P.length) : prU P (u + 1) r = prV P P[u] P.length (prU P u r) := by
  unfold prU; rw [List.take_add_one, List.getElem?_eq_getElem hu, List.foldl_append]; rfl
theorem foldl_same {α β : Type} {f g : β → α → β} : ∀ (l : List α) (b : β), (∀ b, ∀ a ∈ l, f b a = g b a) → l.foldl f b = l.foldl g b
  | [], _, _ => rfl
  | a :: l, b, h => by rw [List.foldl_cons, List.foldl_cons, h b a (by simp)]; exact foldl_same l _ fun b x hx => h b x (by simp [hx])
theorem foldl_idle {α β : Type} {f : β → α → β} : ∀ (l : List α) (b : β), (∀ b, ∀ a ∈ l, f b a = b) → l.foldl f b = b
  | [], _, _ => rfl
  | a :: l, b, h => by rw [List.foldl_cons, h b a (by simp)]; exact foldl_idle l _ fun b x hx => h b x (by simp [hx])
theorem foldl_inv {α β : Type} {f : β → α → β} (T : β → Prop) : ∀ (l : List α) (b : β), (∀ b, ∀ a ∈ l, T b → T (f b a)) → T b → T (l.foldl f b)
  | [], _, _, hb => hb
  | a :: l, b, h, hb => by rw [List.foldl_cons]; exact foldl_inv T l _ (fun b x hx => h b x (by simp [hx])) (h b a (by simp) hb)
theorem opp_fin : ∀ k : Fin 4, ∀ b : Fin 2, (2 * k.val + b.val) ^^^ 1 = 2 * k.val + 1 - b.val := by decide +kernel
theorem plc_opp (m : Nat × Nat) {k : Nat} (hk : k < 4) : plc m k ^^^ 1 = opp m k := by
  have hb := bitN_le m.2 k
  exact opp_fin ⟨k, hk⟩ ⟨bitN m.2 k, by omega⟩
theorem plc_ne {m : Nat × Nat} {j k : Nat} : (plc m j != plc m k) = (j != k) := by
  have h1 := bitN_le m.2 j
  have h2 := bitN_le m.2 k
  rw [Bool.eq_iff_iff, bne_iff_ne, bne_iff_ne]
  unfold plc
  constructor
  · intro h e
    subst e
    exact h rfl
  · intro h e
    omega
theorem pr_eq {N : Nat} (hN : N ≤ 4) (m : Nat × Nat) (r : List Nat) : prU (PL N m) (PL N m).length r = stJ N m N r := by
  unfold prU stJ
  rw [List.take_length]
  have hP : PL N m = ((List.range N).filter fun j => bitN m.1 j == 1).map (plc m) := rfl
  have hV : ∀ f r, prV (PL N m) f (PL N m).length r = (List.range N).foldl (fun r k => if (bitN m.1 k == 1) = true then (if (f != plc m k) = true then upd r f (plc m k ^^^ 1) else r) else r) r := fun f r => by
    unfold prV
    rw [List.take_length, hP, List.foldl_map, List.foldl_filter]
  rw [hP, List.foldl_map, List.foldl_filter, ← hP]
  refine foldl_same _ _ fun r j hj => ?_
  cases hb : (bitN m.1 j == 1) with
  | false =>
    rw [if_neg (by simp)]
    unfold stK
    refine (foldl_idle _ _ fun r k _ => ?_).symm
    rw [if_neg]
    unfold condK
    rw [hb]
    simp
  | true =>
    rw [if_pos rfl, hV]
    unfold stK
    refine foldl_same _ _ fun r k hk => ?_
    have hk4 : k < 4 := by have := List.mem_range.1 hk; omega
    unfold condK
    rw [plc_ne, plc_opp m hk4, hb]
    cases (bitN m.1 k == 1) <;> cases (j != k) <;> rfl
/-- rows of leads -/
def RB (K : Nat) (r : List Nat) : Prop := r.length = K ∧ ∀ x ∈ r, x < 256
theorem RB.at {K : Nat} {r : List Nat} (h : RB K r) (k : Nat) : r.getD k 0 < 256 := by
  by_cases hk : k < r.length
  · rw [List.getD_eq_getElem?_getD, List.getElem?_eq_getElem hk]
    exact h.2 _ (List.getElem_mem hk)
  · rw [List.getD_eq_getElem?_getD, List.getElem?_eq_none (by omega)]
    decide
theorem RB.set {K : Nat} {r : List Nat} (h : RB K r) {f y : Nat} (hy : y < 256) : RB K (r.set f y) := by
  refine ⟨by rw [List.length_set]; exact h.1, fun x hx => ?_⟩
  rcases List.mem_or_eq_of_mem_set hx with h1 | h1
  · exact h.2 x h1
  · rw [h1]; exact hy
theorem or_256 {a b : Nat} (ha : a < 256) (hb : b < 256) : a ||| b < 256 := Nat.or_lt_two_pow (n := 8) ha hb
theorem pow_256 {t : Nat} (ht : t < 8) : 2 ^ t < 256 := by
  have : 2 ^ t ≤ 2 ^ 7 := Nat.pow_le_pow_right (by omega) (by omega)
  omega
theorem RB.upd {K : Nat} {r : List Nat} (h : RB K r) {f t : Nat} (ht : t < 8) : RB K (upd r f t) := h.set (or_256 (h.at f) (pow_256 ht))
theorem opp_lt (m : Nat × Nat) {N k : Nat} (hk : k < N) : opp m k < 2 * N := by
  have := bitN_le m.2 k
  unfold opp; omega
theorem plc_lt (m : Nat × Nat) {N k : Nat} (hk : k < N) : plc m k < 2 * N := by
  have := bitN_le m.2 k
  unfold plc; omega
theorem RB.stK {K N : Nat} (hN : N ≤ 4) {m : Nat × Nat} {j kk : Nat} (hk : kk ≤ N) {r : List Nat} (h : RB K r) : RB K (stK m j kk r) :=
  foldl_inv (RB K) _ _ (fun r k hkm hr => by
    split
    · exact hr.upd (by have := opp_lt m (N := N) (k := k) (by have := List.mem_range.1 hkm; omega); omega)
    · exact hr) h
theorem RB.stJ {K N : Nat} (hN : N ≤ 4) {m : Nat × Nat} {jj : Nat} {r : List Nat} (h : RB K r) : RB K (stJ N m jj r) :=
  foldl_inv (RB K) _ _ (fun _ _ _ hr => hr.stK hN (Nat.le_refl _)) h
theorem RB.stI {N : Nat} (hN : N ≤ 4) (L : List (Nat × Nat)) (ii : Nat) : RB (2 * N) (stI N L ii) :=
  foldl_inv (RB (2 * N)) _ _ (fun _ _ _ hr => hr.stJ hN) ⟨by simp, fun x hx => by rw [List.eq_of_mem_replicate hx]; omega⟩
/-- one step of following leads -/
def clS (r : List Nat) (k i : Nat) : List Nat := if bitN (r.getD i 0) k = 1 then r.set i (r.getD i 0 ||| r.getD k 0) else r
def clI (k ii : Nat) (r : List Nat) : List Nat := (List.range ii).foldl (fun r i => clS r k i) r
def clK (K kk : Nat) (r : List Nat) : List Nat := (List.range kk).foldl (fun r k => clI k K r) r
theorem clI_succ (k i : Nat) (r : List Nat) : clI k (i + 1) r = clS (clI k i r) k i := by
  unfold clI; rw [List.range_succ, List.foldl_append]; rfl
theorem clK_succ (K k : Nat) (r : List Nat) : clK K (k + 1) r = clI k K (clK K k r) := by
  unfold clK; rw [List.range_succ, List.foldl_append]; rfl
theorem RB.clS {K : Nat} {r : List Nat} (h : RB K r) (k i : Nat) : RB K (clS r k i) := by
  unfold Ytbmodiobgkmngaa.clS
  split
  · exact h.set (or_256 (h.at i) (h.at k))
  · exact h
theorem RB.clI {K : Nat} {r : List Nat} (h : RB K r) (k ii : Nat) : RB K (clI k ii r) := foldl_inv (RB K) _ _ (fun _ _ _ hr => hr.clS _ _) h
theorem RB.clK {K : Nat} {r : List Nat} (h : RB K r) (kk : Nat) : RB K (clK K kk r) := foldl_inv (RB K) _ _ (fun _ _ _ hr => hr.clI _ _) h
/-- what LeadsOf answers -/
def ldR (n : Int) (zs : List Int) : List Nat := if vsB n zs = true then clK (2 * n.toNat) (2 * n.toNat) (stI n.toNat (critL n.toNat zs) (critL n.toNat zs).length) else []
theorem ldR_no {n : Int} {zs : List Int} (h : vsB n zs = false) : ldR n zs = [] := by unfold ldR; rw [if_neg (by rw [h]; simp)]
theorem ldR_yes {N : Nat} {zs : List Int} (h : vsB (N : Int) zs = true) : ldR (N : Int) zs = clK (2 * N) (2 * N) (stI N (critL N zs) (critL N zs).length) := by
  unfold ldR; rw [if_pos h, Int.toNat_natCast]

/-- rows of leads in a block, all else as in w2 -/
def LDs (w2 : World) (B0 K : Nat) (r : List Nat) (wr : World) : Prop :=
  wr.ownsRow B0 3 1 (.slice (some ⟨B0, 0, none⟩) K K) K ((ci r).map (Value.int .i64)) ∧ w2.grownBy wr (some B0) ∧ RB K r
theorem LDs.store {w2 wr : World} {B0 K f y : Nat} {r : List Nat} (h : LDs w2 B0 K r wr) (hy : y < 256) : LDs w2 B0 K (r.set f y) (wr.setCell ⟨B0, f, none⟩ (.int .i64 (y : Int))) := by
  refine ⟨?_, gtrans h.2.1 (h.1.stored f _).2, h.2.2.set hy⟩
  rw [ci_set, List.map_set]
  exact (h.1.stored f _).1
theorem LDs.drew {w2 wr : World} {B0 K : Nat} {r : List Nat} (h : LDs w2 B0 K r wr) : LDs w2 B0 K r wr.drew := ⟨h.1, ⟨h.2.1.os, h.2.1.tape, h.2.1.output, h.2.1.size, h.2.1.block⟩, h.2.2⟩
theorem LDs.at {w2 wr : World} {B0 K f : Nat} {r : List Nat} (h : LDs w2 B0 K r wr) (hf : f < K) : wr.cell? ⟨B0, f, none⟩ = some (.int .i64 (r.getD f 0 : Nat)) ∧ wr.frozen? ⟨B0, f, none⟩ = false := by
  have h1 := h.1.cellAt f (by omega)
  have hl : f < r.length := by rw [h.2.2.1]; exact hf
  have e : ((ci r).map (Value.int .i64))[f]? = some (.int .i64 (r.getD f 0 : Nat)) := by
    unfold ci
    rw [List.map_map, List.getElem?_map, List.getElem?_eq_getElem hl, List.getD_eq_getElem?_getD, List.getElem?_eq_getElem hl]
    rfl
  rw [e] at h1
  exact ⟨h1, h.1.frozenAt f⟩
theorem PInts.grown {w w' : World} {a : Option Addr} {ps : List (Int × Int)} {g : Nat} (h : PInts w a ps) (hg : w.grownBy w' (some g)) (hne : ∀ b o s, a = some ⟨b, o, s⟩ → b ≠ g) : PInts w' a ps := fun hz => by
  obtain ⟨b, off, e, hlt, hc⟩ := h hz
  have hb := hne b off none e
  exact ⟨b, off, e, Nat.lt_of_lt_of_le hlt hg.size, fun k hk => ⟨(gcell hg (a := ⟨b, off + k * 2, none⟩) hlt (by simpa using hb)).trans (hc k hk).1, (gcell hg (a := ⟨b, off + k * 2 + 1, none⟩) hlt (by simpa using hb)).trans (hc k hk).2⟩⟩
theorem ownsP_ne {w : World} {base n cap : Nat} {a : Option Addr} {ps : List (Int × Int)} (h : OwnsP w base (.slice a n cap) ps) {g : Nat} (hg : g < base) : ∀ b o s, a = some ⟨b, o, s⟩ → b ≠ g := fun b o s e => by
  have h' : w.ownsRow base 79 2 (.slice a n cap) ps.length (pflat ps) := h
  rcases ownsRow_forms h' with ⟨he, _⟩ | ⟨k, c, he⟩
  · simp only [Value.slice.injEq] at he
    rw [he.1] at e
    cases e
  · simp only [Value.slice.injEq] at he
    have h1 := h'.lt k (by rw [he.1]; rfl)
    rw [he.1] at e
    cases e
    omega
end Go.Proofs.Ytbmodiobgkmngaa

/- LdB: Leads: small steps of both programs. -/
namespace Go.Proofs.Ytbmodiobgkmngaa
open Go.RowKit Go.Joins

theorem LDs.below {w2 wr wx : World} {B0 K : Nat} {r : List Nat} (h : LDs w2 B0 K r wr) (hb : Below wr.heap.size wr wx) : LDs w2 B0 K r wx := by
  have hk : ∀ v, wr.ownsRow B0 3 1 v K ((ci r).map (Value.int .i64)) → wx.ownsRow B0 3 1 v K ((ci r).map (Value.int .i64)) := fun v h => World.ownsRow.kept (row := none) h ⟨hb.os, hb.tape, hb.output, hb.size, fun k hk _ => hb.block k hk⟩ (by rcases v.ownBlock with _ | g <;> simp)
  exact ⟨hk _ h.1, gtrans h.2.1 ((grown_of hb).but _), h.2.2⟩
theorem orL (a b : Nat) (ha : a < 65536) (hb : b < 65536) : bits .or .i64 (a : Int) (b : Int) = ((a ||| b : Nat) : Int) := by
  have hx : a ||| b < 2 ^ 16 := Nat.or_lt_two_pow (by omega) (by omega)
  show IntKind.i64.wrap ((BitVec.ofInt 64 (a : Int) ||| BitVec.ofInt 64 (b : Int)).toNat : Int) = _
  rw [BitVec.toNat_or, ofInt_small a (by omega), ofInt_small b (by omega), IntKind.wrap_i64]
  omega
theorem andL (a b : Nat) (ha : a < 4294967296) (hb : b < 4294967296) : bits .and .i64 (a : Int) (b : Int) = ((a &&& b : Nat) : Int) := by
  have hx : a &&& b ≤ a := Nat.and_le_left
  show IntKind.i64.wrap ((BitVec.ofInt 64 (a : Int) &&& BitVec.ofInt 64 (b : Int)).toNat : Int) = _
  rw [BitVec.toNat_and, ofInt_small a (by omega), ofInt_small b (by omega), IntKind.wrap_i64]
  omega
theorem shrL (a k : Nat) (h : a < 65536) : bits .and .i64 ((a : Int) / 2 ^ k) 1 = ((bitN a k : Nat) : Int) := by
  have e : ((a : Int) / 2 ^ k) = ((a / 2 ^ k : Nat) : Int) := by simp
  have hle : a / 2 ^ k ≤ a := Nat.div_le_self _ _
  rw [e, show (1 : Int) = ((1 : Nat) : Int) from rfl, andL _ _ (by omega) (by omega), Nat.and_one_is_mod]
  rfl
theorem pwL (t : Nat) : pw (t : Int) = ((2 ^ t : Nat) : Int) := by unfold pw; rw [Int.toNat_natCast]
theorem power_le8 (n : Int) (h : n ≤ 8) : pw n ≤ 256 := by
  unfold pw
  have h1 : n.toNat ≤ 8 := by omega
  have : 2 ^ n.toNat ≤ 2 ^ 8 := Nat.pow_le_pow_right (by omega) h1
  omega
theorem power8_any (n : Int) (w : World) (h0 : 0 ≤ n) (h4 : n ≤ 8) : Calls Try.prog 60 #[.int .i64 n] w fun e w' => e = .returned (.int .i64 (pw n)) ∧ w = w' := by
  go_enter Try.func60, Try.ntmps60
  go_wp2
  go_loop [0, 3] (fun i o => ∃ k : Int, 0 ≤ k ∧ k ≤ n ∧ i = .int .i64 k ∧ o = .int .i64 (pw (n - k))) (fun i _ => (intOf i).toNat)
  case atStart => exact ⟨n, h0, Int.le_refl _, rfl, by rw [Int.sub_self]; rfl⟩
  case round =>
    obtain ⟨k, hk0, hkn, rfl, rfl⟩ := hrel
    have b1 := pw_pos (n - k)
    have b2 := power_le8 (n - k) (by omega)
    by_cases hlt : 0 < k
    · go_wp2
      go_round
      case rel => exact ⟨k - 1, by omega, by omega, by go_num, by rw [show n - (k - 1) = (n - k) + 1 from by omega, pw_succ _ (by omega)]⟩
      case measure => simp [intOf]; omega
    · obtain rfl : k = 0 := by omega
      go_wp2
      go_ret
      exact ⟨rfl, rfl⟩
theorem power8_was (t p : Nat) (w : World) (ht : t ≤ 8) (h : 2 ^ t = p) : Calls Try.prog 60 #[.int .i64 (t : Int)] w fun e w' => e = .returned (.int .i64 (p : Int)) ∧ w = w' := by
  have h1 := power8_any (t : Int) w (by omega) (by omega)
  rw [pwL, h] at h1
  exact h1
theorem bit8_any (a j : Nat) (w : World) (ha : a < 65536) (hj : j ≤ 8) : Calls Try.prog 83 #[.int .i64 a, .int .i64 j] w fun e w' => e = .returned (.int .i64 (bitN a j : Nat)) ∧ w = w' := by
  have h0 : pw 0 = 1 := rfl
  have h1 : pw 1 = 2 := rfl
  have h2 : pw 2 = 4 := rfl
  have h3 : pw 3 = 8 := rfl
  have h4 : pw 4 = 16 := rfl
  have h5 : pw 5 = 32 := rfl
  have h6 : pw 6 = 64 := rfl
  have h7 : pw 7 = 128 := rfl
  have h8 : pw 8 = 256 := rfl
  rcases (show j = 0 ∨ j = 1 ∨ j = 2 ∨ j = 3 ∨ j = 4 ∨ j = 5 ∨ j = 6 ∨ j = 7 ∨ j = 8 from by omega) with rfl | rfl | rfl | rfl | rfl | rfl | rfl | rfl | rfl
  all_goals
    go_enter Try.func83, Try.ntmps83
    go_wp2_with (go_at_call 60; refine (power8_any _ _ (by omega) (by omega)).mono ?_; rintro e w' ⟨rfl, rfl⟩)
    go_ret
    exact ⟨ret_int (by unfold bitN; simp; try omega), rfl⟩
theorem bit8_was (a j r : Nat) (w : World) (ha : a < 65536) (hj : j ≤ 8) (h : bitN a j = r) : Calls Try.prog 83 #[.int .i64 a, .int .i64 j] w fun e w' => e = .returned (.int .i64 (r : Nat)) ∧ w = w' := by
  subst h
  exact bit8_any a j w ha hj

theorem LDs.start {w0 w2 : World} {B0 K : Nat} (h : w0.ownsRow B0 3 1 (.slice (some ⟨B0, 0, none⟩) K K) K ((List.replicate K (0 : Int)).map (Value.int .i64))) (hb : Below w0.heap.size w0 w2) : LDs w2 B0 K (List.replicate K 0) w2 := by
  have hk : ∀ v, w0.ownsRow B0 3 1 v K ((List.replicate K (0 : Int)).map (Value.int .i64)) → w2.ownsRow B0 3 1 v K ((List.replicate K (0 : Int)).map (Value.int .i64)) := fun v h => World.ownsRow.kept (row := none) h ⟨hb.os, hb.tape, hb.output, hb.size, fun k hk _ => hb.block k hk⟩ (by rcases v.ownBlock with _ | g <;> simp)
  refine ⟨?_, (World.grownBy.refl _ _), by simp, fun x hx => by rw [List.eq_of_mem_replicate hx]; omega⟩
  have e : ci (List.replicate K 0) = List.replicate K (0 : Int) := by unfold ci; rw [List.map_replicate]; rfl
  rw [e]
  exact hk _ h
theorem LDs.keep {w2 wr : World} {B0 K : Nat} {r : List Nat} (h : LDs w2 B0 K r wr) {a : Addr} {v : Value} (hc : w2.cell? a = some v) (hne : a.block ≠ B0) : wr.cell? a = some v :=
  (gcell h.2.1 (a := a) (World.block_lt_of_cell? _ _ hc) (by simpa using hne)).trans hc

end Go.Proofs.Ytbmodiobgkmngaa

/- LdC: Leads: following them, in both programs; the places of a part's answers. -/
namespace Go.Proofs.Ytbmodiobgkmngaa
open Go.RowKit Go.Joins

/-- a list of leads in a block of its own, all else as in w2 -/
def LDg (w2 : World) (base g c K : Nat) (r : List Nat) (wr : World) : Prop :=
  wr.ownsRow base 3 1 (.slice (some ⟨g, 0, none⟩) K c) K ((ci r).map (Value.int .i64)) ∧ w2.grownBy wr (some g) ∧ RB K r
theorem LDg.store {w2 wr : World} {base g c K f y : Nat} {r : List Nat} (h : LDg w2 base g c K r wr) (hy : y < 256) : LDg w2 base g c K (r.set f y) (wr.setCell ⟨g, f, none⟩ (.int .i64 (y : Int))) := by
  refine ⟨?_, gtrans h.2.1 (h.1.stored f _).2, h.2.2.set hy⟩
  rw [ci_set, List.map_set]
  exact (h.1.stored f _).1
theorem LDg.drew {w2 wr : World} {base g c K : Nat} {r : List Nat} (h : LDg w2 base g c K r wr) : LDg w2 base g c K r wr.drew := ⟨h.1, ⟨h.2.1.os, h.2.1.tape, h.2.1.output, h.2.1.size, h.2.1.block⟩, h.2.2⟩
theorem LDg.at {w2 wr : World} {base g c K f : Nat} {r : List Nat} (h : LDg w2 base g c K r wr) (hf : f < K) : wr.cell? ⟨g, f, none⟩ = some (.int .i64 (r.getD f 0 : Nat)) ∧ wr.frozen? ⟨g, f, none⟩ = false := by
  have h1 := h.1.cellAt f (by omega)
  have hl : f < r.length := by rw [h.2.2.1]; exact hf
  have e : ((ci r).map (Value.int .i64))[f]? = some (.int .i64 (r.getD f 0 : Nat)) := by
    unfold ci
    rw [List.map_map, List.getElem?_map, List.getElem?_eq_getElem hl, List.getD_eq_getElem?_getD, List.getElem?_eq_getElem hl]
    rfl
  rw [e] at h1
  exact ⟨h1, h.1.frozenAt f⟩
theorem LDg.keep {w2 wr : World} {base g c K : Nat} {r : List Nat} (h : LDg w2 base g c K r wr) {a : Addr} {v : Value} (hc : w2.cell? a = some v) (hne : a.block ≠ g) : wr.cell? a = some v :=
  (gcell h.2.1 (a := a) (World.block_lt_of_cell? _ _ hc) (by simpa using hne)).trans hc
theorem LDg.below {w2 wr wx : World} {base g c K : Nat} {r : List Nat} (h : LDg w2 base g c K r wr) (hb : Below wr.heap.size wr wx) : LDg w2 base g c K r wx := by
  have hk : ∀ v, wr.ownsRow base 3 1 v K ((ci r).map (Value.int .i64)) → wx.ownsRow base 3 1 v K ((ci r).map (Value.int .i64)) := fun v h => World.ownsRow.kept (row := none) h ⟨hb.os, hb.tape, hb.output, hb.size, fun k hk _ => hb.block k hk⟩ (by rcases v.ownBlock with _ | g <;> simp)
  exact ⟨hk _ h.1, gtrans h.2.1 ((grown_of hb).but _), h.2.2⟩
theorem LDg.anchor {w2 wr : World} {base g c K : Nat} {r : List Nat} (h : LDg w2 base g c K r wr) : LDg wr base g c K r wr := ⟨h.1, World.grownBy.refl _ _, h.2.2⟩
theorem LDg.to {w2 wr : World} {base g c K : Nat} {r r' : List Nat} (h : LDg w2 base g c K r wr) (e : r' = r) : LDg w2 base g c K r' wr := by
  subst e
  exact h
theorem clS_yes {r : List Nat} {k i : Nat} (h : bitN (r.getD i 0) k = 1) : clS r k i = r.set i (r.getD i 0 ||| r.getD k 0) := by unfold clS; rw [if_pos h]
theorem clS_no {r : List Nat} {k i : Nat} (h : bitN (r.getD i 0) k = 0) : clS r k i = r := by unfold clS; rw [if_neg (by rw [h]; decide)]
theorem ints_cells {w : World} {b off : Nat} {zs : List Int} (h : ∀ k, k < zs.length → w.cell? ⟨b, off + k, none⟩ = some (.int .i64 (zs.getD k 0))) : ∀ (j : Nat) (u : Value), (zs.map (Value.int .i64))[j]? = some u → w.cell? ((⟨b, off, none⟩ : Addr).add j) = some u := fun j u hu => by
  rw [List.getElem?_map] at hu
  rcases hz : zs[j]? with _ | z
  · rw [hz] at hu
    simp at hu
  · rw [hz] at hu
    have hj : j < zs.length := by
      rcases Nat.lt_or_ge j zs.length with h1 | h1
      · exact h1
      · rw [List.getElem?_eq_none h1] at hz
        cases hz
    have h1 := h j hj
    rw [List.getD_eq_getElem?_getD, hz] at h1
    cases hu
    rw [Addr.add_lit]
    exact h1


set_option maxHeartbeats 4000000 in
set_option maxRecDepth 100000 in
theorem followLeads_any (K base g c : Nat) (r : List Nat) (w : World) (hg : LDg w base g c K r w) (hK : K ≤ 8) :
    Calls Try.prog 74 #[.slice (some ⟨g, 0, none⟩) K c] w fun e w' => e = .returned (.tuple #[]) ∧ LDg w base g c K (clK K K r) w' := by
  have D1 := hide hg
  clear hg
  go_enter Try.func74, Try.ntmps74
  go_wp2_with fail
  go_loopw [6] (fun i wr => ∃ kk : Nat, kk ≤ K ∧ i = .int .i64 kk ∧ LDg w base g c K (clK K kk r) wr) (fun i _ => K - (intOf i).toNat)
  case atStart => exact ⟨0, Nat.zero_le _, rfl, D1.out⟩
  case round =>
    clear D1
    obtain ⟨k, hk, rfl, hd⟩ := hrel
    by_cases hkt : k < K
    · have HS := hide (clK_succ K k r)
      obtain ⟨r0, hr0⟩ : ∃ r0, r0 = clK K k r := ⟨_, rfl⟩
      rw [← hr0] at hd HS
      have HD := hide hd
      clear hr0 hd
      go_wp2_with fail
      go_loopw [11] (fun i wr => ∃ ii : Nat, ii ≤ K ∧ i = .int .i64 ii ∧ LDg w base g c K (clI k ii r0) wr) (fun i _ => K - (intOf i).toNat)
      case atStart => exact ⟨0, Nat.zero_le _, rfl, HD.out⟩
      case round =>
        clear HD
        obtain ⟨i, hi, rfl, hd⟩ := hrel
        by_cases hit : i < K
        · have HY := hide (clI_succ k i r0)
          obtain ⟨u, hu⟩ : ∃ u, u = clI k i r0 := ⟨_, rfl⟩
          rw [← hu] at hd HY
          obtain ⟨x1, x2⟩ := hd.at hit
          obtain ⟨y1, _⟩ := hd.at hkt
          have l1 := hd.2.2.at i
          have l2 := hd.2.2.at k
          have HD := hide hd
          clear hd hu
          obtain ⟨bv, hbv⟩ : ∃ bv, bitN (u.getD i 0) k = bv := ⟨_, rfl⟩
          have lbv := bitN_le (u.getD i 0) k
          have HBV := hide hbv
          rw [hbv] at lbv
          obtain ⟨ui, hui⟩ : ∃ ui, u.getD i 0 = ui := ⟨_, rfl⟩
          obtain ⟨uk, huk⟩ : ∃ uk, u.getD k 0 = uk := ⟨_, rfl⟩
          have HUI := hide hui
          have HUK := hide huk
          rw [hui] at x1 l1 HBV hbv
          rw [huk] at y1 l2
          clear hui huk
          have hor := orL ui uk (by omega) (by omega)
          have hsh := shrL ui k (by omega)
          rw [hbv] at hsh
          clear hbv
          rcases (show bv = 0 ∨ bv = 1 from by omega) with rfl | rfl
          · go_wp2_with fail
            go_roundw
            case rel => exact ⟨i + 1, by omega, by go_num, by rw [HY.out, clS_no (by rw [HUI.out]; exact HBV.out)]; exact HD.out⟩
            case measure => simp only [intOf]; omega
          · go_wp2_with fail
            go_region
            all_goals go_wp2
            all_goals
              go_roundw
              case rel => exact ⟨i + 1, by omega, by go_num, by rw [HY.out, clS_yes (by rw [HUI.out]; exact HBV.out), HUI.out, HUK.out]; exact (HD.out.drew).store (or_256 l1 l2)⟩
              case measure => simp only [intOf]; omega
        · obtain rfl : i = K := by omega
          go_wp2_with fail
          go_roundw
          case rel => exact ⟨k + 1, by omega, by go_num, by rw [HS.out]; exact hd⟩
          case measure => simp only [intOf]; omega
    · obtain rfl : k = K := by omega
      go_wp2_with fail
      go_end0
      exact ⟨rfl, hd⟩

def PLk (k : Nat) (m : Nat × Nat) : List Nat := ((List.range k).filter fun j => bitN m.1 j == 1).map (plc m)
theorem PLk_yes {k : Nat} {m : Nat × Nat} (h : bitN m.1 k = 1) : ci (PLk (k + 1) m) = ci (PLk k m) ++ [((2 * k + bitN m.2 k : Nat) : Int)] := by
  unfold PLk ci
  rw [List.range_succ, List.filter_append, List.map_append, List.map_append]
  simp [h, plc]
theorem PLk_no {k : Nat} {m : Nat × Nat} (h : bitN m.1 k = 0) : PLk (k + 1) m = PLk k m := by
  unfold PLk
  rw [List.range_succ, List.filter_append, List.map_append]
  simp [h]
theorem PLk_len (k : Nat) (m : Nat × Nat) : (PLk k m).length ≤ k := by
  unfold PLk
  rw [List.length_map]
  exact Nat.le_trans (List.length_filter_le _ _) (by simp)
set_option maxHeartbeats 4000000 in
theorem placesOf_any (N mc mb : Nat) (w : World) (hN : N ≤ 4) (hc : mc < 16) (hb : mb < 16) :
    Calls Try.prog 72 #[.int .i64 (N : Int), .agg #[.int .i64 (mc : Int), .int .i64 (mb : Int)]] w (Gives (ci (PL N (mc, mb))) w) := by
  obtain ⟨i0, hi0, hz0, hz1, hz2⟩ := info_parts info_int
  have P0 := PBox.new w (mc : Int) (mb : Int) 79
  have B0 := hide (bel1 w (.cells #[.int .i64 (mc : Int), .int .i64 (mb : Int)] 79))
  have HP := hide P0
  clear P0
  go_enter Try.func72, Try.ntmps72
  go_wp2_with fail
  go_loopw [5, 8] (fun v i wr => ∃ k : Nat, k ≤ N ∧ i = .int .i64 k ∧ Owns wr (w.heap.size + 1) v (ci (PLk k (mc, mb))) ∧ Below w.heap.size w wr ∧ PBox wr w.heap.size mc mb) (fun _ i _ => N - (intOf i).toNat)
  case atStart => exact ⟨0, Nat.zero_le _, rfl, World.ownsRow_nil _ _ _ _, B0.out, HP.out⟩
  case round =>
    clear B0 HP
    obtain ⟨k, hk, rfl, hown, hbl, hpb⟩ := hrel
    have hpb' := hpb
    obtain ⟨_, q0, q1⟩ := hpb'
    have hsz := hbl.size
    have hsz1 := hpb.1
    have HBL := hide hbl
    have HPB := hide hpb
    have hlen := PLk_len k (mc, mb)
    rw [← ci_len] at hlen
    clear hbl hpb
    by_cases hkt : k < N
    · obtain ⟨ec, hec⟩ : ∃ ec, bitN mc k = ec := ⟨_, rfl⟩
      obtain ⟨eb, heb⟩ : ∃ eb, bitN mb k = eb := ⟨_, rfl⟩
      have l1 := bitN_le mc k
      have l2 := bitN_le mb k
      have s1 := shrL mc k (by omega)
      have s2 := shrL mb k (by omega)
      rw [hec] at l1 s1
      rw [heb] at l2 s2
      have HEC := hide hec
      have HEB := hide heb
      clear hec heb
      rcases (show ec = 0 ∨ ec = 1 from by omega) with rfl | rfl
      · go_wp2_with fail
        go_roundw
        case rel => exact ⟨k + 1, by omega, by go_num, by rw [PLk_no (show bitN (mc, mb).1 k = 0 from HEC.out)]; exact hown, HBL.out, HPB.out⟩
        case measure => simp only [intOf]; omega
      · have hown' : wr.ownsRow (w.heap.size + 1) 3 1 _ (ci (PLk k (mc, mb))).length ((ci (PLk k (mc, mb))).map (Value.int .i64)) := hown
        clear hown
        go_wp2_with ((at_builtin; refine wpList_append_own _ rfl _ _ 23 rfl (w.heap.size + 1) 3 i0 (.int .i64 0) 1 8 Try.underlying23 hi0 hz0 hz1 hz2 rfl (by decide) _ _ _ rfl (hown'.alloc _) ⟨wr.heap.size, 0, none⟩ 1 1 [.int .i64 (2 * (k : Int) + (eb : Int))] rfl rfl ?c1 ?c2 ?c3 ?c4 ?c5 ?_))
        case c1 => exact cell_one_new wr _ _
        case c2 => intro u hu; simp at hu; subst hu; rfl
        case c3 => unfold maxLen; omega
        case c4 => omega
        case c5 => simp; omega
        intro v' w2 hown2 hgrow _
        have hpush := hide (Owns.push hown2)
        have hge := fun j hj => (hown'.lt j hj).1
        have hbel : Below w.heap.size w w2 := (HBL.out.alloc HBL.out.size _).grown hgrow (by simp; omega) (fun j hj => by have := hge j hj; omega)
        have hpb2 : PBox w2 w.heap.size mc mb := (HPB.out.below (bel1 _ _)).grown hgrow (fun e => by have := hge _ e.symm; omega)
        clear hown2 hgrow hown'
        go_wp2_with fail
        go_roundw
        case rel => exact ⟨k + 1, by omega, by go_num, by rw [PLk_yes (show bitN (mc, mb).1 k = 1 from HEC.out), show ((2 * k + bitN (mc, mb).2 k : Nat) : Int) = 2 * (k : Int) + (eb : Int) from by rw [show bitN (mc, mb).2 k = eb from HEB.out]; omega]; exact hpush.out, hbel, hpb2⟩
        case measure => simp only [intOf]; omega
    · obtain rfl : k = N := by omega
      go_wp2_with fail
      go_ret
      exact ⟨_, rfl, hown.le (by omega), HBL.out⟩

theorem oppositePlace_was (p q : Nat) (w : World) (hp : p < 16) (h : p ^^^ 1 = q) : Calls Try.prog 73 #[.int .i64 (p : Int)] w fun e w' => e = .returned (.int .i64 (q : Int)) ∧ w = w' := by
  have h1 : bits .xor .i64 (p : Int) 1 = (q : Int) := by
    have h1 := xor_small p 1 (by omega) (by omega)
    rw [h] at h1
    exact h1
  have HX := hide h
  clear h
  go_enter Try.func73, Try.ntmps73
  go_wp2_with fail
  go_ret
  exact ⟨rfl, rfl⟩
end Go.Proofs.Ytbmodiobgkmngaa

/- LdI: Leads in the program. -/
namespace Go.Proofs.Ytbmodiobgkmngaa
open Go.RowKit Go.Joins

theorem shl_small (t : Nat) (ht : t < 8) : wrap64 ((2 : Int) ^ t) = ((2 ^ t : Nat) : Int) := by
  have h := pow_256 ht
  have e : ((2 : Int) ^ t) = ((2 ^ t : Nat) : Int) := by simp
  rw [e]
  generalize 2 ^ t = p at h
  unfold wrap64
  omega
theorem implVS_was (n : Int) (a : Option Addr) (cap : Nat) (zs : List Int) (r : Bool) (w : World) (hi : Ints w a zs) (hn : zs.length ≤ 1048576) (h : vsB n zs = r) :
    Calls Try.prog 9 #[.agg #[.int .i64 n, .slice a zs.length cap]] w fun e w' => e = .returned (.bool r) ∧ Below w.heap.size w w' := by
  subst h
  exact implValidSpace_any n a cap zs w hi hn
theorem specVS_was (n : Int) (a : Option Addr) (cap : Nat) (zs : List Int) (r : Bool) (w : World) (hi : Ints w a zs) (hn : zs.length ≤ 1048576) (h : vsB n zs = r) :
    Calls Try.prog 30 #[.agg #[.int .i64 n, .slice a zs.length cap]] w fun e w' => e = .returned (.bool r) ∧ Below w.heap.size w w' := by
  subst h
  exact validSpace_any n a cap zs w hi hn
theorem PL_lt {N : Nat} {m : Nat × Nat} {i : Nat} (hi : i < (PL N m).length) : (PL N m)[i] < 2 * N := by
  have key : ∀ x ∈ PL N m, x < 2 * N := fun x h => by
    unfold PL at h
    obtain ⟨j, hj, e⟩ := List.mem_map.1 h
    have := List.mem_range.1 (List.mem_filter.1 hj).1
    have h2 := plc_lt m this
    omega
  exact key _ (List.getElem_mem hi)
theorem natD_lt {l : List Nat} {k : Nat} (h : k < l.length) : l.getD k 0 = l[k] := by simp [List.getD_eq_getElem?_getD, h]
theorem PL_len (N : Nat) (m : Nat × Nat) : (PL N m).length ≤ N := PLk_len N m
theorem LDs.g {w2 wr : World} {B0 K : Nat} {r : List Nat} (h : LDs w2 B0 K r wr) : LDg w2 B0 B0 K K r wr := h
theorem LDg.join {w1 w2 wr : World} {base g c K : Nat} {r r' : List Nat} (h : LDg w1 base g c K r w2) (h' : LDg w2 base g c K r' wr) : LDg w1 base g c K r' wr := ⟨h'.1, gtrans h.2.1 h'.2.1, h'.2.2⟩

set_option maxHeartbeats 8000000 in
set_option maxRecDepth 100000 in
theorem implLeadsOf_any (n : Int) (a : Option Addr) (cap : Nat) (zs : List Int) (w : World) (hi : Ints w a zs) (hn : zs.length ≤ 1048576) :
    Calls Try.prog 42 #[.agg #[.int .i64 n, .slice a zs.length cap]] w (Gives (ci (ldR n zs)) w) := by
  obtain ⟨i0, hi0, hz0, hz1, hz2⟩ := info_parts info_int
  have S0 := SV.new w n a zs cap none [] 25 hi (Ints.nil _ _)
  clear hi
  obtain ⟨⟨_, c0, c1⟩, _⟩ := S0.pair
  by_cases hv : vsB n zs = false
  · have HV := hide (show ci (ldR n zs) = [] from by rw [ldR_no hv]; rfl)
    have HVV := hide hv
    clear hv
    go_enter Try.func42, Try.ntmps42
    go_wp2_with fail
    refine (implVS_was _ _ _ _ _ _ S0.2.1 hn HVV.out).mono ?_
    rintro e w1 ⟨rfl, hb⟩
    go_wp2
    go_ret
    exact gives_nil HV.out (S0.below hb).2.2.2
  · have hv : vsB n zs = true := by simpa using hv
    have hV := valid_of hv
    have HR := hide (valid_range hV)
    have hN4 := hV.1
    obtain ⟨N, hN⟩ : ∃ N : Nat, n = (N : Int) := ⟨n.toNat, by omega⟩
    subst hN
    have HV := hide (ldR_yes hv)
    have HCR := hide (crR_yes hv)
    have HVV := hide hv
    have hN : 1 ≤ N ∧ N ≤ 4 := by omega
    clear hV hN4 hv
    go_enter Try.func42, Try.ntmps42
    go_wp2_with fail
    refine (implVS_was _ _ _ _ _ _ S0.2.1 hn HVV.out).mono ?_
    rintro e w1 ⟨rfl, hb⟩
    have S1 := S0.below hb
    clear S0 hb c0 c1
    obtain ⟨⟨_, c0, c1⟩, _⟩ := S1.pair
    go_wp2_with (at_make; refine wpList_make_full _ rfl _ _ 23 rfl w1.heap.size 3 i0 (.int .i64 0) 1 Try.underlying23 hi0 hz0 hz1 _ _ _ _ (2 * N) rfl rfl (by first | omega | (simp; omega)) (by first | omega | (simp; omega)) ?b2 ?b3 (by simp) ?_)
    case b2 => rw [hz2]; omega
    case b3 => unfold maxLen; omega
    intro w0 hown0 hgrow0
    rw [madeInts] at hown0
    have S2 := S1.below ((Below.refl _ _).grown hgrow0 (Nat.le_refl _) (fun k h => by cases h))
    have hw1 : w.heap.size < w1.heap.size := S1.1.1
    have HS1 := hide S1
    clear c0 c1 S1 hgrow0
    obtain ⟨⟨_, c0, c1⟩, _⟩ := S2.pair
    go_wp2_with fail
    refine (implCriticalParts_any _ _ _ _ _ S2.2.1 hn).mono ?_
    rintro e w3 ⟨v, rfl, own, hb3⟩
    obtain ⟨L, hL⟩ : ∃ L, L = critL N zs := ⟨_, rfl⟩
    have e1 : crR (N : Int) zs = ofP L := by rw [HCR.out, Int.toNat_natCast, hL]
    rw [e1] at own
    have hl81 : L.length ≤ 81 := by
      rw [hL]
      have h1 : (ordL N).length ≤ 81 := by simpa using range5_of ord_len hN.2
      exact Nat.le_trans (List.length_filter_le _ _) h1
    have H16 : Hid (∀ p ∈ L, p.1 < 16 ∧ p.2 < 16) := fun p hp => by
      rw [hL] at hp
      exact ord_16 hN.2 (List.mem_filter.1 hp).1
    have HLL := hide (ofP_len L)
    have HL := hide hL
    obtain ⟨va, vc, hve, pin⟩ := own.form
    rw [HLL.out] at hve
    subst hve
    have hB0 : w1.heap.size < w0.heap.size := (hown0.lt w1.heap.size rfl).2
    have HNE := hide (ownsP_ne own (g := w1.heap.size) (by omega))
    have PIN := hide pin
    have D0 := hide ((LDs.start hown0 hb3).g)
    have S3 := hide (S2.below hb3)
    have hw3 : w1.heap.size < w3.heap.size := Nat.lt_of_lt_of_le hB0 hb3.size
    obtain ⟨⟨_, d0, _⟩, _⟩ := S3.out.pair
    have DN := hide d0
    clear c0 c1 S2 own hown0 hb3 pin d0 hB0 hL e1
    go_wp2_with fail
    go_loopw [21] (fun i wr => ∃ ii : Nat, ii ≤ L.length ∧ i = .int .i64 ii ∧ LDg w3 w1.heap.size w1.heap.size (2 * N) (2 * N) (stI N L ii) wr) (fun i _ => L.length - (intOf i).toNat)
    case atStart => exact ⟨0, Nat.zero_le _, rfl, D0.out⟩
    case round =>
      clear D0
      obtain ⟨ii, hii, rfl, hc⟩ := hrel
      by_cases hlt : ii < L.length
      · obtain ⟨pc, hpc⟩ : ∃ pc, pc = L[ii].1 := ⟨_, rfl⟩
        obtain ⟨pb, hpb⟩ : ∃ pb, pb = L[ii].2 := ⟨_, rfl⟩
        have hm : L[ii] = (pc, pb) := by rw [hpc, hpb]
        have h16 := H16.out L[ii] (List.getElem_mem hlt)
        rw [hm] at h16
        have HS := hide (show stI N L (ii + 1) = stJ N (pc, pb) N (stI N L ii) from by rw [← hm]; exact stI_succ hlt)
        obtain ⟨r0, hr0⟩ : ∃ r0, r0 = stI N L ii := ⟨_, rfl⟩
        rw [← hr0] at hc HS
        obtain ⟨b1, o1, rfl, hb1, hc1⟩ := PIN.out (by rw [HLL.out]; omega)
        obtain ⟨x1, x2⟩ := hc1 ii (by rw [HLL.out]; omega)
        have hnb : b1 ≠ w1.heap.size := HNE.out b1 o1 none rfl
        rw [ofP_at hlt, hm] at x1 x2
        have z1 := hc.keep x1 (by simpa using hnb)
        have z2 := hc.keep x2 (by simpa using hnb)
        have hc5 := hc.below (bel1 wr (.cells #[.int .i64 (pc : Int), .int .i64 (pb : Int)] 79))
        obtain ⟨_, p0, p1⟩ := PBox.new wr (pc : Int) (pb : Int) 79
        have qn := hc5.keep DN.out (by simp; omega)
        have HC5 := hide hc5
        have hsz : w1.heap.size < wr.heap.size := Nat.lt_of_lt_of_le hw3 hc.2.1.size
        have H16m := hide h16
        clear x1 x2 hc1 hnb hb1 hm h16 hr0 hc hc5 hpc hpb
        go_wp2_with fail
        refine (placesOf_any N pc pb _ hN.2 H16m.out.1 H16m.out.2).mono ?_
        rintro e w6 ⟨v6, rfl, own6, b6⟩
        have HC6 := hide ((HC5.out.below b6).anchor)
        have HJ6 := hide (HC5.out.below b6)
        obtain ⟨P, hP⟩ : ∃ P, P = PL N (pc, pb) := ⟨_, rfl⟩
        have HPR := hide (show prU P P.length r0 = stJ N (pc, pb) N r0 from by rw [hP]; exact pr_eq hN.2 _ _)
        have hpl : P.length ≤ 4 := by rw [hP]; have := PL_len N (pc, pb); omega
        have HPL : Hid (∀ i (hi : i < P.length), P[i] < 2 * N) := fun i hi => by subst hP; exact PL_lt hi
        rw [← hP] at own6
        obtain ⟨ap, cp, hve, ip, gp⟩ := own6.form
        rw [ci_len] at hve
        subst hve
        have IP := hide ip
        have GP : Hid (∀ b o s, ap = some ⟨b, o, s⟩ → b ≠ w1.heap.size) := fun b o s e => by have h1 := (gp b o s e).1; have h2 := hsz; simp at h1; omega
        clear z1 z2 p0 p1 qn HC5 own6 b6 ip gp hP
        go_wp2_with fail
        go_loopw [31] (fun i wq => ∃ uu : Nat, uu ≤ P.length ∧ i = .int .i64 uu ∧ LDg w6 w1.heap.size w1.heap.size (2 * N) (2 * N) (prU P uu r0) wq) (fun i _ => P.length - (intOf i).toNat)
        case atStart => exact ⟨0, Nat.zero_le _, rfl, HC6.out⟩
        case round =>
          clear HC6
          obtain ⟨uu, huu, rfl, hc⟩ := hrel
          by_cases hut : uu < P.length
          · have HU := hide (prU_succ (P := P) (r := r0) hut)
            obtain ⟨f, hf⟩ : ∃ f, f = P[uu] := ⟨_, rfl⟩
            have hf8 : f < 2 * N := by rw [hf]; exact HPL.out uu hut
            obtain ⟨r1, hr1⟩ : ∃ r1, r1 = prU P uu r0 := ⟨_, rfl⟩
            rw [← hr1, ← hf] at HU
            rw [← hr1] at hc
            obtain ⟨b2, o2, rfl, _, hc2⟩ := IP.out (by rw [ci_len]; omega)
            have x1 := hc2 uu (by rw [ci_len]; exact hut)
            rw [ci_at hut, natD_lt hut, ← hf] at x1
            have y1 := hc.keep x1 (by have := GP.out b2 o2 none rfl; simpa using this)
            have HC := hide hc
            have HC2 := hide hc2
            clear x1 hc2 hf hr1 hc
            go_wp2_with fail
            clear y1
            go_loopw [37] (fun i wq => ∃ vv : Nat, vv ≤ P.length ∧ i = .int .i64 vv ∧ LDg w6 w1.heap.size w1.heap.size (2 * N) (2 * N) (prV P f vv r1) wq) (fun i _ => P.length - (intOf i).toNat)
            case atStart => exact ⟨0, Nat.zero_le _, rfl, HC.out⟩
            case round =>
              clear HC
              obtain ⟨vv, hvv, rfl, hc⟩ := hrel
              by_cases hvt : vv < P.length
              · obtain ⟨o, ho⟩ : ∃ o, o = P[vv] := ⟨_, rfl⟩
                have ho8 : o < 2 * N := by rw [ho]; exact HPL.out vv hvt
                have x1 := HC2.out vv (by rw [ci_len]; exact hvt)
                rw [ci_at hvt, natD_lt hvt, ← ho] at x1
                have y1 := hc.keep x1 (by have := GP.out b2 o2 none rfl; simpa using this)
                have HC := hide hc
                have HO := hide ho
                clear x1 ho hc
                by_cases hfo : f = o
                · have hne : ((f : Int) != (o : Int)) = false := by rw [hfo]; simp
                  have HV0 := hide (prV_no (f := f) (r := r1) hvt (show (f != P[vv]) = false from by rw [← HO.out]; simpa using hfo))
                  clear hfo
                  go_wp2_with fail
                  go_roundw
                  case rel => exact ⟨vv + 1, by omega, by go_num, by rw [HV0.out]; exact HC.out⟩
                  case measure => simp only [intOf]; omega
                · have hne : ((f : Int) != (o : Int)) = true := by simp; omega
                  have HV1 := hide (prV_yes (f := f) (r := r1) hvt (show (f != P[vv]) = true from by rw [← HO.out]; simpa using hfo))
                  clear hfo
                  obtain ⟨t, ht⟩ : ∃ t, o ^^^ 1 = t := ⟨_, rfl⟩
                  have ht8 : t < 8 := by rw [← ht]; exact Nat.xor_lt_two_pow (n := 3) (by omega) (by omega)
                  obtain ⟨u, hu⟩ : ∃ u, u = prV P f vv r1 := ⟨_, rfl⟩
                  rw [← HO.out, ht, ← hu] at HV1
                  rw [← hu] at HC
                  obtain ⟨q, hq⟩ := HC.out.at (f := f) hf8
                  have hl := HC.out.2.2.at f
                  obtain ⟨lf, hlf⟩ : ∃ lf, u.getD f 0 = lf := ⟨_, rfl⟩
                  have hp := pow_256 ht8
                  have hsh := shl_small t ht8
                  obtain ⟨pt, hpt⟩ : ∃ pt, 2 ^ t = pt := ⟨_, rfl⟩
                  rw [hlf] at q hl
                  rw [hpt] at hp hsh
                  have hor := orL lf pt (by omega) (by omega)
                  have HE := hide (show bits .or .i64 (lf : Int) (wrap64 ((2 : Int) ^ t)) = ((lf ||| pt : Nat) : Int) from by rw [hsh]; exact hor)
                  have HP := hide hpt
                  have HLF := hide hlf
                  have HT := hide ht
                  clear hu hpt hlf ht hsh hor
                  go_wp2_with fail
                  clear y1
                  go_region_with (go_at_call 73; refine (oppositePlace_was o t _ (by omega) HT.out).mono ?_; rintro e w' ⟨rfl, rfl⟩)
                  all_goals go_wp2
                  all_goals
                    go_roundw
                    case rel => exact ⟨vv + 1, by omega, by go_num, by rw [HV1.out]; unfold upd; rw [HLF.out, HP.out]; have h5 := (HC.out.store (f := f) (or_256 hl hp)).drew; rw [← HE.out] at h5; exact h5⟩
                    case measure => simp only [intOf]; omega
              · obtain rfl : vv = P.length := by omega
                go_wp2_with fail
                go_roundw
                case rel => exact ⟨uu + 1, by omega, by go_num, by rw [HU.out]; exact hc⟩
                case measure => simp only [intOf]; omega
          · obtain rfl : uu = P.length := by omega
            go_wp2_with fail
            go_roundw
            case rel => exact ⟨ii + 1, by omega, by go_num, by rw [HS.out, ← HPR.out]; exact HJ6.out.join hc⟩
            case measure => simp only [intOf]; omega
      · obtain rfl : ii = L.length := by omega
        go_wp2_with fail
        refine (followLeads_any (2 * N) _ _ _ _ _ hc.anchor (by omega)).mono ?_
        rintro e w8 ⟨rfl, h8⟩
        go_wp2_with fail
        go_ret
        have h9 := hc.join h8
        refine ⟨_, rfl, ?_, ?_⟩
        · refine Owns.le (base := w1.heap.size) ?_ (by omega)
          have h1 := h9.1
          have h2 := h9.2.2.1
          unfold Owns
          rw [HV.out, ← HL.out, ci_len]
          clear h9 h8 hc
          generalize (clK (2 * N) (2 * N) (stI N L L.length)) = z at h1 h2 ⊢
          rw [h2]
          exact h1
        · exact bgrown S3.out.2.2.2 h9.2.1 (by omega) (fun k hk => by cases hk; omega)
end Go.Proofs.Ytbmodiobgkmngaa

/- BkM: Blocked spaces: plain mathematics. -/
namespace Go.Proofs.Ytbmodiobgkmngaa
open Go.RowKit Go.Joins

/-- rows of K bits -/
def RC (K : Nat) (r : List Nat) : Prop := r.length = K ∧ ∀ x ∈ r, x < 2 ^ K
theorem RC.at {K : Nat} {r : List Nat} (h : RC K r) (k : Nat) : r.getD k 0 < 2 ^ K := by
  by_cases hk : k < r.length
  · rw [List.getD_eq_getElem?_getD, List.getElem?_eq_getElem hk]
    exact h.2 _ (List.getElem_mem hk)
  · rw [List.getD_eq_getElem?_getD, List.getElem?_eq_none (by omega)]
    exact Nat.two_pow_pos K
theorem RC.set {K : Nat} {r : List Nat} (h : RC K r) {f y : Nat} (hy : y < 2 ^ K) : RC K (r.set f y) := by
  refine ⟨by rw [List.length_set]; exact h.1, fun x hx => ?_⟩
  rcases List.mem_or_eq_of_mem_set hx with h1 | h1
  · exact h.2 x h1
  · rw [h1]; exact hy
theorem RC.upd {K : Nat} {r : List Nat} (h : RC K r) {f t : Nat} (ht : t < K) : RC K (upd r f t) := h.set (Nat.or_lt_two_pow (h.at f) (Nat.pow_lt_pow_right (by omega) ht))
theorem rc_stK {N : Nat} {m : Nat × Nat} {j kk : Nat} (hk : kk ≤ N) {r : List Nat} (h : RC (2 * N) r) : RC (2 * N) (stK m j kk r) :=
  foldl_inv (RC (2 * N)) _ _ (fun r k hkm hr => by
    split
    · exact hr.upd (opp_lt m (N := N) (k := k) (by have := List.mem_range.1 hkm; omega))
    · exact hr) h
theorem rc_stJ {N : Nat} {m : Nat × Nat} {jj : Nat} {r : List Nat} (h : RC (2 * N) r) : RC (2 * N) (stJ N m jj r) :=
  foldl_inv (RC (2 * N)) _ _ (fun _ _ _ hr => rc_stK (Nat.le_refl _) hr) h
theorem rc_stI (N : Nat) (L : List (Nat × Nat)) (ii : Nat) : RC (2 * N) (stI N L ii) :=
  foldl_inv (RC (2 * N)) _ _ (fun _ _ _ hr => rc_stJ hr) ⟨by simp, fun x hx => by rw [List.eq_of_mem_replicate hx]; exact Nat.two_pow_pos _⟩
theorem rc_clS {K : Nat} {r : List Nat} (h : RC K r) (k i : Nat) : RC K (clS r k i) := by
  unfold clS
  split
  · exact h.set (Nat.or_lt_two_pow (h.at i) (h.at k))
  · exact h
theorem rc_clI {K : Nat} {r : List Nat} (h : RC K r) (k ii : Nat) : RC K (clI k ii r) := foldl_inv (RC K) _ _ (fun _ _ _ hr => rc_clS hr _ _) h
theorem rc_clK {K : Nat} {r : List Nat} (h : RC K r) (kk : Nat) : RC K (clK K kk r) := foldl_inv (RC K) _ _ (fun _ _ _ hr => rc_clI hr _ _) h
/-- all lead to all -/
def allB (K : Nat) (r : List Nat) : Bool := (List.range K).all fun i => (List.range K).all fun k => i == k || bitN (r.getD i 0) k == 1
theorem allB_iff (K : Nat) (r : List Nat) : allB K r = true ↔ ∀ i, i < K → ∀ k, k < K → i ≠ k → bitN (r.getD i 0) k = 1 := by
  unfold allB
  simp only [List.all_eq_true, List.mem_range, Bool.or_eq_true, beq_iff_eq]
  constructor
  · intro h i hi k hk hne
    rcases h i hi k hk with e | e
    · exact absurd e hne
    · exact e
  · intro h i hi k hk
    by_cases e : i = k
    · exact Or.inl e
    · exact Or.inr (h i hi k hk e)
theorem bitN_testBit (a k : Nat) : bitN a k = 1 ↔ a.testBit k = true := by
  unfold bitN
  rw [Nat.testBit_eq_decide_div_mod_eq]
  simp
theorem full_iff {K a i : Nat} (ha : a < 2 ^ K) (hi : i < K) : a ||| 2 ^ i = 2 ^ K - 1 ↔ ∀ k, k < K → i ≠ k → bitN a k = 1 := by
  constructor
  · intro h k hk hne
    rw [bitN_testBit]
    have h1 := congrArg (fun x => x.testBit k) h
    simp only [Nat.testBit_or, Nat.testBit_two_pow, Nat.testBit_two_pow_sub_one] at h1
    rw [decide_eq_false hne, decide_eq_true hk, Bool.or_false] at h1
    exact h1
  · intro h
    refine Nat.eq_of_testBit_eq fun k => ?_
    rw [Nat.testBit_or, Nat.testBit_two_pow, Nat.testBit_two_pow_sub_one]
    by_cases hk : k < K
    · rw [decide_eq_true hk]
      by_cases hne : i = k
      · rw [decide_eq_true hne, Bool.or_true]
      · rw [(bitN_testBit a k).1 (h k hk hne), Bool.true_or]
    · rw [decide_eq_false hk, decide_eq_false (by omega), Bool.or_false]
      exact Nat.testBit_lt_two_pow (Nat.lt_of_lt_of_le ha (Nat.pow_le_pow_right (by omega) (by omega)))
/-- what IsBlocked answers -/
def blkB (n : Int) (zs : List Int) : Bool := vsB n zs && allB (2 * n.toNat) (ldR n zs)
theorem blkB_no {n : Int} {zs : List Int} (h : vsB n zs = false) : blkB n zs = false := by unfold blkB; rw [h]; rfl
theorem blkB_yes {n : Int} {zs : List Int} (h : vsB n zs = true) : blkB n zs = allB (2 * n.toNat) (ldR n zs) := by unfold blkB; rw [h]; rfl
theorem blk_no {n : Int} {zs : List Int} (h : vsB n zs = true) {i k : Nat} (hi : i < 2 * n.toNat) (hk : k < 2 * n.toNat) (hne : i ≠ k) (hb : bitN ((ldR n zs).getD i 0) k = 0) : blkB n zs = false := by
  rw [blkB_yes h]
  cases ha : allB (2 * n.toNat) (ldR n zs) with
  | false => rfl
  | true =>
    have := (allB_iff _ _).1 ha i hi k hk hne
    rw [hb] at this
    cases this
theorem ldR_rc {N : Nat} {zs : List Int} (h : vsB (N : Int) zs = true) : RC (2 * N) (ldR (N : Int) zs) := by
  rw [ldR_yes h]
  exact rc_clK (rc_stI N _ _) _
end Go.Proofs.Ytbmodiobgkmngaa

/- BkI: IsBlocked of the program. -/
namespace Go.Proofs.Ytbmodiobgkmngaa
open Go.RowKit Go.Joins

theorem ldR_len8 {N : Nat} {zs : List Int} (h : vsB (N : Int) zs = true) : (ci (ldR (N : Int) zs)).length = 2 * N := by
  rw [ci_len]; exact (ldR_rc h).1
set_option maxHeartbeats 4000000 in
set_option maxRecDepth 100000 in
theorem implIsBlocked_any (n : Int) (a : Option Addr) (cap : Nat) (zs : List Int) (w : World) (hi : Ints w a zs) (hn : zs.length ≤ 1048576) :
    Calls Try.prog 14 #[.agg #[.int .i64 n, .slice a zs.length cap]] w fun e w' => e = .returned (.bool (blkB n zs)) ∧ Below w.heap.size w w' := by
  have S0 := SV.new w n a zs cap none [] 25 hi (Ints.nil _ _)
  clear hi
  obtain ⟨⟨_, c0, c1⟩, _⟩ := S0.pair
  by_cases hv : vsB n zs = false
  · have HV := hide (blkB_no hv)
    have HVV := hide hv
    clear hv
    go_enter Try.func14, Try.ntmps14
    go_wp2_with fail
    refine (implVS_was _ _ _ _ _ _ S0.2.1 hn HVV.out).mono ?_
    rintro e w1 ⟨rfl, hb⟩
    go_wp2
    go_ret
    exact ⟨ret_bool HV.out.symm, (S0.below hb).2.2.2⟩
  · have hv : vsB n zs = true := by simpa using hv
    have hN4 := (valid_of hv).1
    obtain ⟨N, hN⟩ : ∃ N : Nat, n = (N : Int) := ⟨n.toNat, by omega⟩
    subst hN
    have HV := hide hv
    have hN : 1 ≤ N ∧ N ≤ 4 := by omega
    have HRC := hide (ldR_rc hv)
    have HLEN := hide (ldR_len8 hv)
    clear hN4 hv
    go_enter Try.func14, Try.ntmps14
    go_wp2_with fail
    refine (implVS_was _ _ _ _ _ _ S0.2.1 hn HV.out).mono ?_
    rintro e w1 ⟨rfl, hb⟩
    have S1 := S0.below hb
    clear S0 hb c0 c1
    obtain ⟨⟨_, c0, c1⟩, _⟩ := S1.pair
    go_wp2_with fail
    refine (implLeadsOf_any _ _ _ _ _ S1.2.1 hn).mono ?_
    rintro e w3 ⟨v, rfl, own, hb⟩
    obtain ⟨va, vc, rfl, pin, _⟩ := own.form
    have B3 := hide (bnext S1.2.2.2 hb)
    obtain ⟨R, hR⟩ : ∃ R, R = ldR (N : Int) zs := ⟨_, rfl⟩
    have hrl : R.length = 2 * N := by rw [hR]; exact HRC.out.1
    rw [← hR] at pin
    obtain ⟨b, off, rfl, _, hc⟩ := pin (by rw [ci_len, hrl]; omega)
    have HC : Hid (∀ i, i < 2 * N → w3.cell? ⟨b, off + i, none⟩ = some (.int .i64 (R.getD i 0 : Nat))) := fun i hi => by
      have h1 := hc i (by rw [ci_len, hrl]; exact hi)
      rw [ci_at (by rw [hrl]; exact hi)] at h1
      exact h1
    have HRK : Hid (∀ i, R.getD i 0 < 2 ^ (2 * N)) := fun i => by rw [hR]; exact HRC.out.at i
    have HRR := hide hR
    have NO : Hid (∀ i : Nat, i < 2 * N → ¬ (R.getD i 0 ||| 2 ^ i = 2 ^ (2 * N) - 1) → blkB (N : Int) zs = false) := fun i hi hne => by
      rw [blkB_yes HV.out]
      cases ha : allB (2 * (N : Int).toNat) (ldR (N : Int) zs) with
      | false => rfl
      | true =>
        rw [allB_iff, ← HRR.out] at ha
        exact absurd ((full_iff (HRK.out i) hi).2 fun k hk hik => ha i (by simpa using hi) k (by simpa using hk) hik) hne
    have YES : Hid ((∀ i, i < 2 * N → R.getD i 0 ||| 2 ^ i = 2 ^ (2 * N) - 1) → blkB (N : Int) zs = true) := fun h => by
      rw [blkB_yes HV.out, allB_iff, ← HRR.out]
      intro i hi k hk hik
      have hi' : i < 2 * N := by simpa using hi
      exact (full_iff (HRK.out i) hi').1 (h i hi') k (by simpa using hk) hik
    clear own hb pin hR hrl hc S1 c0 c1
    go_wp2_with fail
    rw [HLEN.out]
    have hK8 : 2 ^ (2 * N) ≤ 256 := by
      have : 2 ^ (2 * N) ≤ 2 ^ 8 := Nat.pow_le_pow_right (by omega) (by omega)
      omega
    have hK1 : 1 ≤ 2 ^ (2 * N) := Nat.two_pow_pos _
    obtain ⟨Q, hQ⟩ : ∃ Q, Q = 2 ^ (2 * N) := ⟨_, rfl⟩
    rw [← hQ] at hK8 hK1 HRK NO YES
    have hshN : wrap64 ((2 : Int) ^ (2 * N)) = (Q : Int) := by
      have e : ((2 : Int) ^ (2 * N)) = (Q : Int) := by rw [hQ]; simp
      rw [e]
      unfold wrap64
      omega
    have HSN := hide hshN
    clear hQ hshN
    go_wp2_with fail
    go_loopw [13] (fun i wr => ∃ ii : Nat, ii ≤ 2 * N ∧ i = .int .i64 ii ∧ Hid (∀ i', i' < ii → R.getD i' 0 ||| 2 ^ i' = Q - 1) ∧ Below w3.heap.size w3 wr) (fun i _ => 2 * N - (intOf i).toNat)
    case atStart => exact ⟨0, Nat.zero_le _, rfl, fun i' h => by omega, Below.refl _ _⟩
    case round =>
      obtain ⟨ii, hii, rfl, hall, hbw⟩ := hrel
      have HBW := hide hbw
      by_cases hlt : ii < 2 * N
      · have x0 := HC.out ii hlt
        have x1 := (hbw.cell (p := ⟨b, off + ii, none⟩) (World.block_lt_of_cell? _ _ x0)).trans x0
        clear x0 hbw
        have l1 := HRK.out ii
        have NO' := hide (NO.out ii hlt)
        have hsh := shl_small ii (by omega)
        have hp := pow_256 (t := ii) (by omega)
        have HNX : Hid (R.getD ii 0 ||| 2 ^ ii = Q - 1 → ∀ i', i' < ii + 1 → R.getD i' 0 ||| 2 ^ i' = Q - 1) := fun e i' h => by
          rcases Nat.lt_or_ge i' ii with h1 | h1
          · exact hall.out i' h1
          · obtain rfl : i' = ii := by omega
            exact e
        clear hall
        obtain ⟨ri, hri⟩ : ∃ ri, R.getD ii 0 = ri := ⟨_, rfl⟩
        obtain ⟨pt, hpt⟩ : ∃ pt, 2 ^ ii = pt := ⟨_, rfl⟩
        rw [hri] at x1 l1 NO' HNX
        rw [hpt] at hsh hp NO' HNX
        have hri8 : ri < 256 := Nat.lt_of_lt_of_le l1 hK8
        have hor := orL ri pt (Nat.lt_trans hri8 (by decide)) (Nat.lt_trans hp (by decide))
        have hshN := HSN.out
        have HE : Hid (bits .or .i64 (ri : Int) (wrap64 ((2 : Int) ^ ii)) = ((ri ||| pt : Nat) : Int)) := by unfold Hid; rw [hsh]; exact hor
        have HO := hide (or_256 hri8 hp)
        clear hri hpt hor hsh hshN
        go_wp2_with fail
        go_quiet (fail)
        by_cases hq : ri ||| pt = Q - 1
        · have HB : Hid ((bits .or .i64 (ri : Int) (wrap64 ((2 : Int) ^ ii)) != wrap64 (wrap64 ((2 : Int) ^ (2 * N)) - 1)) = false) := by
            unfold Hid
            rw [HE.out, HSN.out, IntWalk.wrap64_in _ (by omega), hq]
            simp
            omega
          have HQ := hide hq
          clear hq
          rw [HB.out]
          go_wp2_with fail
          go_roundw
          case rel => exact ⟨ii + 1, by omega, by go_num, HNX.out HQ.out, bnext HBW.out (belN _ _)⟩
          case measure => simp only [intOf]; omega
        · have HB : Hid ((bits .or .i64 (ri : Int) (wrap64 ((2 : Int) ^ ii)) != wrap64 (wrap64 ((2 : Int) ^ (2 * N)) - 1)) = true) := by
            unfold Hid
            rw [HE.out, HSN.out, IntWalk.wrap64_in _ (by omega), bne_iff_ne]
            omega
          have HQ := hide hq
          clear hq
          rw [HB.out]
          go_wp2_with fail
          go_ret
          exact ⟨ret_bool (NO'.out HQ.out).symm, bnext B3.out (bnext HBW.out (belN _ _))⟩
      · obtain rfl : ii = 2 * N := by omega
        go_wp2_with fail
        go_ret
        exact ⟨ret_bool (YES.out hall.out).symm, bnext B3.out HBW.out⟩
end Go.Proofs.Ytbmodiobgkmngaa
