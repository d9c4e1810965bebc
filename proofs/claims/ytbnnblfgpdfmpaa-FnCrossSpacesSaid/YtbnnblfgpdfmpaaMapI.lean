/- Parts as keys: told apart. -/
import Derived.Test.YtbnnblfgpdfmpaaMapL
import Derived.Maps.Views
namespace Go.Proofs.Ytbnnblfgpdfmpaa
open Go

theorem wf_16 (c : Nat) (h : c < 16) : (Lit.int .i64 (c : Int)).wf = true := by
  simp [Lit.wf, IntKind.min, IntKind.max, IntKind.bits, IntKind.signed]
  omega
theorem litP_inj {c b c' b' : Int} (hc : (Lit.int .i64 c).wf = true) (hb : (Lit.int .i64 b).wf = true) (hc' : (Lit.int .i64 c').wf = true) (hb' : (Lit.int .i64 b').wf = true) (h : litP c b = litP c' b') : c = c' ∧ b = b' := by
  have e := part_keyed.inj (part_key c b hc hb) (by rw [h]; exact part_key c' b' hc' hb')
  simp only [Value.agg.injEq, Array.mk.injEq, List.cons.injEq, Value.int.injEq, and_true, true_and] at e
  exact e
theorem litP_ne {p q : Nat × Nat} (hp1 : p.1 < 16) (hp2 : p.2 < 16) (hq1 : q.1 < 16) (hq2 : q.2 < 16) (h : p ≠ q) : litP (p.1 : Int) (p.2 : Int) ≠ litP (q.1 : Int) (q.2 : Int) := fun e => by
  obtain ⟨e1, e2⟩ := litP_inj (wf_16 _ hp1) (wf_16 _ hp2) (wf_16 _ hq1) (wf_16 _ hq2) e
  exact h (Prod.ext (by omega) (by omega))
/-- what a map from parts says, of parts below 16 -/
def MapIs {H : Type} (D : DataW H) (f : Nat × Nat → Bool) : Prop := Maps.IsMap D ∧ ∀ p : Nat × Nat, p.1 < 16 → p.2 < 16 → D.atKey (litP (p.1 : Int) (p.2 : Int)) (.lit (.bool false)) = .lit (.bool (f p))
theorem litP_key (c b : Int) : WideAt.IsKeyLit (litP c b) := by unfold litP; trivial
theorem MapIs.put {H : Type} {D : DataW H} {f : Nat × Nat → Bool} (h : MapIs D f) {q : Nat × Nat} (hq1 : q.1 < 16) (hq2 : q.2 < 16) (r : Bool) :
    MapIs (D.put (litP (q.1 : Int) (q.2 : Int)) (.lit (.bool r))) (fun p => if p = q then r else f p) := by
  refine ⟨h.1.put _ _, fun p hp1 hp2 => ?_⟩
  show _ = DataW.lit (Lit.bool (if p = q then r else f p))
  by_cases e : p = q
  · subst e
    rw [Maps.atKey_put_same h.1 (litP_key _ _), if_pos rfl]
  · rw [Maps.atKey_put_other (litP_ne hp1 hp2 hq1 hq2 e), if_neg e]
    exact h.2 p hp1 hp2
theorem MapIs.del {H : Type} {D : DataW H} {f : Nat × Nat → Bool} (h : MapIs D f) {q : Nat × Nat} (hq1 : q.1 < 16) (hq2 : q.2 < 16) :
    MapIs (D.del (litP (q.1 : Int) (q.2 : Int))) (fun p => if p = q then false else f p) := by
  refine ⟨h.1.del _, fun p hp1 hp2 => ?_⟩
  show _ = DataW.lit (Lit.bool (if p = q then false else f p))
  by_cases e : p = q
  · subst e
    rw [Maps.atKey_del_same, if_pos rfl]
  · rw [Maps.atKey_del_other (litP_ne hp1 hp2 hq1 hq2 e), if_neg e]
    exact h.2 p hp1 hp2
theorem MapIs.empty {H : Type} : MapIs (.map [] : DataW H) (fun _ => false) := ⟨Maps.isMap_empty, fun _ _ _ => rfl⟩
end Go.Proofs.Ytbnnblfgpdfmpaa
