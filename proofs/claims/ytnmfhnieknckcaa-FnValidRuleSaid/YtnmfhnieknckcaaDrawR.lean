/- The draw of rules: a rule under way. -/
import Derived.Test.YtnmfhnieknckcaaDrawU
import Derived.Test.YtnmfhnieknckcaaSpare
import Derived.Deep.RegionHeld3
namespace Go.Proofs.Ytnmfhnieknckcaa
open Go.RowKit Go.Joins

/-- a rule under way: the space's box, the answer's block, the rule's block, the wins' row, the families, the reader -/
def RI (R : Nat) (w : World) (B K : Nat) (m : Int) (sv : Value) (v : Int) (n : Nat) (vv : Value) (ws : List Int) (af : Option Addr) (fl : List Int) (wq : World) : Prop :=
  wq.heap[w.heap.size]? = some (.cells #[.int .i64 m, sv] 25 (0, 0)) ∧ wq.heap[w.heap.size + 1]? = some (.cells #[.int .i64 0, .slice none 0 0] 27 (0, 0)) ∧ wq.heap[B]? = some (.cells #[.int .i64 v, vv] 27 (0, 0)) ∧
    Owns wq K vv ws ∧ Ints wq af fl ∧ w.grownBy wq (some R) ∧ RD wq R n ∧ K ≤ wq.heap.size ∧ (R < w.heap.size ∧ w.heap.size + 1 < B ∧ B < K) ∧ ∀ b o s, af = some ⟨b, o, s⟩ → B < b ∧ b < K
theorem RI.rd {R : Nat} {w : World} {B K : Nat} {m v : Int} {sv vv : Value} {n : Nat} {ws fl : List Int} {af : Option Addr} {wq : World} (h : RI R w B K m sv v n vv ws af fl wq) : RD wq R n := h.2.2.2.2.2.2.1
theorem RI.own {R : Nat} {w : World} {B K : Nat} {m v : Int} {sv vv : Value} {n : Nat} {ws fl : List Int} {af : Option Addr} {wq : World} (h : RI R w B K m sv v n vv ws af fl wq) : Owns wq K vv ws := h.2.2.2.1
theorem RI.fam {R : Nat} {w : World} {B K : Nat} {m v : Int} {sv vv : Value} {n : Nat} {ws fl : List Int} {af : Option Addr} {wq : World} (h : RI R w B K m sv v n vv ws af fl wq) : Ints wq af fl := h.2.2.2.2.1
theorem RI.blk {R : Nat} {w : World} {B K : Nat} {m v : Int} {sv vv : Value} {n : Nat} {ws fl : List Int} {af : Option Addr} {wq : World} (h : RI R w B K m sv v n vv ws af fl wq) : wq.heap[B]? = some (.cells #[.int .i64 v, vv] 27 (0, 0)) := h.2.2.1
theorem RI.size {R : Nat} {w : World} {B K : Nat} {m v : Int} {sv vv : Value} {n : Nat} {ws fl : List Int} {af : Option Addr} {wq : World} (h : RI R w B K m sv v n vv ws af fl wq) : K ≤ wq.heap.size ∧ (R < w.heap.size ∧ w.heap.size + 1 < B ∧ B < K) := ⟨h.2.2.2.2.2.2.2.1, h.2.2.2.2.2.2.2.2.1⟩
theorem RI.more {R : Nat} {w : World} {B K : Nat} {m v : Int} {sv vv : Value} {n k : Nat} {ws fl : List Int} {af : Option Addr} {wq : World} (h : RI R w B K m sv v n vv ws af fl wq) (hk : n ≤ k) : RI R w B K m sv v k vv ws af fl wq := by
  obtain ⟨h1, h2, h3, h4, h5, h6, h7, h8⟩ := h
  exact ⟨h1, h2, h3, h4, h5, h6, h7.more hk, h8⟩
theorem Ints.row {w w' : World} {a : Option Addr} {zs : List Int} {row : Option Nat} (h : Ints w a zs) (hg : w.grownBy w' row) (hne : ∀ b o s, a = some ⟨b, o, s⟩ → row ≠ some b) : Ints w' a zs := fun hz => by
  obtain ⟨b, off, e, hlt, hc⟩ := h hz
  exact ⟨b, off, e, Nat.lt_of_lt_of_le hlt hg.size, fun k hk => hg.cell (hc k hk) (fun e' => hne b off none e e'.symm)⟩
theorem RI.below {R : Nat} {w : World} {B K : Nat} {m v : Int} {sv vv : Value} {n : Nat} {ws fl : List Int} {af : Option Addr} {wq w' : World} (h : RI R w B K m sv v n vv ws af fl wq) (hb : Below wq.heap.size wq w') : RI R w B K m sv v n vv ws af fl w' := by
  obtain ⟨h1, h2, h3, h4, h5, h6, h7, h8, h9, h10⟩ := h
  exact ⟨(hb.block _ (by omega)).trans h1, (hb.block _ (by omega)).trans h2, (hb.block _ (by omega)).trans h3, h4.below hb, h5.below hb, gbelow h6 (hb.mono (by omega)), h7.below hb, Nat.le_trans h8 hb.size, h9, h10⟩
theorem RI.drew {R : Nat} {w : World} {B K : Nat} {m v : Int} {sv vv : Value} {n : Nat} {ws fl : List Int} {af : Option Addr} {wq : World} (h : RI R w B K m sv v n vv ws af fl wq) : RI R w B K m sv v n vv ws af fl wq.drew := h.below (bdrew' (Below.refl _ _))
theorem RI.pick {R : Nat} {w : World} {B K : Nat} {m v : Int} {sv vv : Value} {n k : Nat} {ws fl : List Int} {af : Option Addr} {wq w' : World} (h : RI R w B K m sv v n vv ws af fl wq) (hg : wq.grownBy w' (some R)) (hr : RD w' R k) : RI R w B K m sv v k vv ws af fl w' := by
  obtain ⟨h1, h2, h3, h4, h5, h6, _, h8, h9, h10⟩ := h
  exact ⟨(hg.block _ (by omega) (by simp; omega)).trans h1, (hg.block _ (by omega) (by simp; omega)).trans h2, (hg.block _ (by omega) (by simp; omega)).trans h3, h4.other hg (fun g e => by cases e; omega), h5.row hg (fun b o s e e' => by have := h10 b o s e; cases e'; omega), gpick h6 hg, hr, Nat.le_trans h8 hg.size, h9, h10⟩
theorem RI.push {R : Nat} {w : World} {B K : Nat} {m v z : Int} {sv vv v' : Value} {n : Nat} {ws fl : List Int} {af : Option Addr} {wq w5 : World} (h : RI R w B K m sv v n vv ws af fl wq) (hg : wq.grownBy w5 vv.ownBlock)
    (ho : w5.ownsRow K 3 1 v' (ws.length + 1) (ws.map (Value.int .i64) ++ [.int .i64 z])) :
    RI R w B K m sv v n v' (ws ++ [z]) af fl (w5.setCell ⟨B, 1, none⟩ v') ∧ w5.heap[B]? = some (.cells #[.int .i64 v, vv] 27 (0, 0)) := by
  obtain ⟨h1, h2, h3, h4, h5, h6, h7, h8, h9, h10⟩ := h
  have hge := own_ge h4
  have hne : ∀ k, k < K → some k ≠ vv.ownBlock := fun k hk e => by
    have := hge k e.symm
    omega
  have b3 := (hg.block B (by omega) (hne _ (by omega))).trans h3
  refine ⟨⟨?_, ?_, block_setCell (i := 1) b3 _, (Owns.push ho).setBelow (p := ⟨B, 1, none⟩) (by show B < K; omega) _, ?_, ?_, ?_, ?_, h9, h10⟩, b3⟩
  · exact (Below.heap_setCell _ _ _ _ (by show w.heap.size ≠ B; omega)).trans ((hg.block _ (by omega) (hne _ (by omega))).trans h1)
  · exact (Below.heap_setCell _ _ _ _ (by show w.heap.size + 1 ≠ B; omega)).trans ((hg.block _ (by omega) (hne _ (by omega))).trans h2)
  · refine (h5.row hg (fun b o s e e' => ?_)).row (gset w5 B 1 v') (fun b o s e e' => ?_)
    · have := h10 b o s e
      have := hge b e'
      omega
    · have := h10 b o s e
      cases e'; omega
  · exact gbelow h6 (((Below.refl _ _).grown hg (by omega) (fun k hk => by have := hge k hk; omega)).setCell (p := ⟨B, 1, none⟩) (by show w.heap.size ≤ B; omega) _)
  · exact (h7.grown hg (fun g e => by have := hge g e; omega)).set (by omega)
  · have := hg.size
    simp; omega
theorem RI.set0 {R : Nat} {w : World} {B K : Nat} {m v x : Int} {sv vv : Value} {n : Nat} {ws fl : List Int} {af : Option Addr} {wq : World} (h : RI R w B K m sv v n vv ws af fl wq) : RI R w B K m sv x n vv ws af fl (wq.setCell ⟨B, 0, none⟩ (.int .i64 x)) := by
  obtain ⟨h1, h2, h3, h4, h5, h6, h7, h8, h9, h10⟩ := h
  refine ⟨(Below.heap_setCell _ _ _ _ (by show w.heap.size ≠ B; omega)).trans h1, (Below.heap_setCell _ _ _ _ (by show w.heap.size + 1 ≠ B; omega)).trans h2, block_setCell (i := 0) h3 _, h4.setBelow (p := ⟨B, 0, none⟩) (by show B < K; omega) _,
    h5.row (gset wq B 0 _) (fun b o s e e' => by have := h10 b o s e; cases e'; omega), gbelow h6 ((Below.refl _ _).setCell (p := ⟨B, 0, none⟩) (by show w.heap.size ≤ B; omega) _), h7.set (by omega), by simpa using h8, h9, h10⟩
/-- a write into the wins -/
theorem RI.row {R : Nat} {w : World} {B K : Nat} {m v : Int} {sv vv : Value} {n k : Nat} {ws ws' fl : List Int} {af : Option Addr} {wq w5 : World} (h : RI R w B K m sv v n vv ws af fl wq) (hk : vv.ownBlock = some k) (hg : wq.grownBy w5 (some k)) (ho : Owns w5 K vv ws') : RI R w B K m sv v n vv ws' af fl w5 := by
  obtain ⟨h1, h2, h3, h4, h5, h6, h7, h8, h9, h10⟩ := h
  have hge := own_ge h4 k hk
  exact ⟨(hg.block _ (by omega) (by simp; omega)).trans h1, (hg.block _ (by omega) (by simp; omega)).trans h2, (hg.block _ (by omega) (by simp; omega)).trans h3, ho, h5.row hg (fun b o s e e' => by have := h10 b o s e; cases e'; omega), gbelow h6 ((Below.refl _ _).grown hg (by omega) (fun j hj => by cases hj; omega)), h7.grown hg (fun g e => by cases e; omega), Nat.le_trans h8 hg.size, h9, h10⟩
/-- What a draw of a rule leaves. -/
def RulePost (R n : Nat) (w : World) (e : Ending) (w' : World) : Prop :=
  ∃ (v : Int) (vv : Value) (ws : List Int), e = .returned (.agg #[.int .i64 v, vv]) ∧ Owns w' w.heap.size vv ws ∧ ws.length ≤ 8 ∧ v ≤ 4 ∧ w.grownBy w' (some R) ∧ RD w' R n
theorem RI.done {R : Nat} {w : World} {B K : Nat} {m v : Int} {sv vv : Value} {n k : Nat} {ws fl : List Int} {af : Option Addr} {wq : World} (h : RI R w B K m sv v n vv ws af fl wq) (hl : ws.length ≤ 8) (hv4 : v ≤ 4) (hk : n ≤ k) (x y : Value) :
    RulePost R k w (.returned (.agg #[.int .i64 v, vv])) ((wq.setCell ⟨w.heap.size + 1, 0, none⟩ x).setCell ⟨w.heap.size + 1, 1, none⟩ y) := by
  obtain ⟨h1, h2, h3, h4, h5, h6, h7, h8, h9, h10⟩ := h
  refine ⟨v, vv, ws, rfl, (h4.set2 (g := w.heap.size + 1) (by omega) x y).le (by omega), hl, hv4, ?_, ?_⟩
  · exact gbelow (gbelow h6 ((Below.refl _ _).setCell (p := ⟨w.heap.size + 1, 0, none⟩) (by show w.heap.size ≤ w.heap.size + 1; omega) _)) ((Below.refl _ _).setCell (p := ⟨w.heap.size + 1, 1, none⟩) (by show w.heap.size ≤ w.heap.size + 1; omega) _)
  · exact ((h7.set (by omega)).set (by omega)).more hk
end Go.Proofs.Ytnmfhnieknckcaa
