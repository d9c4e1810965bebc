/- The draw of votes in a space. -/
import Derived.Test.YtnmfhnieknckcaaDrawL
import Derived.Deep.RegionHeld3
import Derived.Deep.RegionLawGrows
import Derived.Test.YtnmfhnieknckcaaSpare
namespace Go.Proofs.Ytnmfhnieknckcaa
open Go.RowKit Go.Joins

theorem lit7 (w : World) (a b c d e f g : Int) : Ints (w.alloc (.cells #[.int .i64 a, .int .i64 b, .int .i64 c, .int .i64 d, .int .i64 e, .int .i64 f, .int .i64 g] 3)) (some ⟨w.heap.size, 0, none⟩) [a, b, c, d, e, f, g] := fun _ =>
  ⟨w.heap.size, 0, rfl, by simp, fun k hk => by
    match k, hk with
    | 0, _ => simp [go_sem]
    | 1, _ => simp [go_sem]
    | 2, _ => simp [go_sem]
    | 3, _ => simp [go_sem]
    | 4, _ => simp [go_sem]
    | 5, _ => simp [go_sem]
    | 6, _ => simp [go_sem]⟩
/-- votes under way: the space's box, the list, the reader -/
def VI (R : Nat) (w : World) (n : Nat) (m : Int) (sl : Value) (v : Value) (ls : List Int) (wq : World) : Prop :=
  wq.heap[w.heap.size]? = some (.cells #[.int .i64 m, sl] 25 (0, 0)) ∧ Owns wq (w.heap.size + 1) v ls ∧ w.grownBy wq (some R) ∧ RD wq R n ∧ w.heap.size + 1 ≤ wq.heap.size ∧ R < w.heap.size
theorem VI.rd {R : Nat} {w : World} {m : Int} {n : Nat} {sl v : Value} {ls : List Int} {wq : World} (h : VI R w n m sl v ls wq) : RD wq R n := h.2.2.2.1
theorem VI.new {R : Nat} {w : World} {n : Nat} (m : Int) (sl : Value) (h : RD w R n) :
    VI R w n m sl (.slice (some ⟨w.heap.size + 1, 0, none⟩) 0 0) [] ((w.alloc (.cells #[.int .i64 m, sl] 25)).alloc (.cells #[] 3)) := by
  have h0 := heap_alloc_new w (.cells #[.int .i64 m, sl] 25)
  have he := Owns.empty (w.alloc (.cells #[.int .i64 m, sl] 25)) (base := w.heap.size + 1) (by simp)
  simp only [World.size_alloc] at he
  exact ⟨((bel1 _ _).block w.heap.size (by simp)).trans h0, he, gbelow (grefl0 w R) (bel2 w _ _), h.below (bel2 w _ _), by simp, h.lt⟩
theorem VI.below {R : Nat} {w : World} {m : Int} {n : Nat} {sl v : Value} {ls : List Int} {wq w' : World} (h : VI R w n m sl v ls wq) (hb : Below wq.heap.size wq w') : VI R w n m sl v ls w' := by
  obtain ⟨h1, h2, h3, h4, h5, h6⟩ := h
  exact ⟨(hb.block _ (by omega)).trans h1, h2.below hb, gbelow h3 (hb.mono (by omega)), h4.below hb, Nat.le_trans h5 hb.size, h6⟩
theorem VI.drew {R : Nat} {w : World} {m : Int} {n : Nat} {sl v : Value} {ls : List Int} {wq : World} (h : VI R w n m sl v ls wq) : VI R w n m sl v ls wq.drew := h.below (bdrew' (Below.refl _ _))
theorem VI.pick {R : Nat} {w : World} {m : Int} {n k : Nat} {sl v : Value} {ls : List Int} {wq w' : World} (h : VI R w n m sl v ls wq) (hg : wq.grownBy w' (some R)) (hr : RD w' R k) : VI R w k m sl v ls w' := by
  obtain ⟨h1, h2, h3, _, h5, h6⟩ := h
  exact ⟨(hg.block _ (by omega) (by simp; omega)).trans h1, h2.other hg (fun g e => by cases e; omega), gpick h3 hg, hr, Nat.le_trans h5 hg.size, h6⟩
theorem VI.more {R : Nat} {w : World} {m : Int} {n k : Nat} {sl v : Value} {ls : List Int} {wq : World} (h : VI R w n m sl v ls wq) (hk : n ≤ k) : VI R w k m sl v ls wq :=
  ⟨h.1, h.2.1, h.2.2.1, h.2.2.2.1.more hk, h.2.2.2.2⟩
theorem VI.push {R : Nat} {w : World} {m z : Int} {n : Nat} {sl v v' : Value} {ls : List Int} {wq w5 : World} {o : Obj} (h : VI R w n m sl v ls wq) (hg : (wq.alloc o).grownBy w5 v.ownBlock)
    (ho : w5.ownsRow (w.heap.size + 1) 3 1 v' (ls.length + 1) (ls.map (Value.int .i64) ++ [.int .i64 z])) : VI R w n m sl v' (ls ++ [z]) w5 := by
  obtain ⟨h1, h2, h3, h4, h5, h6⟩ := h.below (bel1 wq o)
  have hne : ∀ k, k < w.heap.size + 1 → some k ≠ v.ownBlock := fun k hk e => by
    have := own_ge h2 k e.symm
    omega
  exact ⟨(hg.block _ (by omega) (hne _ (by omega))).trans h1, Owns.push ho, gbelow h3 ((Below.refl _ _).grown hg (by omega) (fun k hk => by have := own_ge h2 k hk; omega)), h4.grown hg (fun g e => by have := own_ge h2 g e; omega), Nat.le_trans h5 hg.size, h6⟩
/-- a write into the list -/
theorem VI.row {R : Nat} {w : World} {m : Int} {n : Nat} {sl v v' : Value} {ls ls' : List Int} {wq w5 : World} {k : Nat} (h : VI R w n m sl v ls wq) (hk : v.ownBlock = some k) (hg : wq.grownBy w5 (some k)) (ho : Owns w5 (w.heap.size + 1) v' ls') : VI R w n m sl v' ls' w5 := by
  obtain ⟨h1, h2, h3, h4, h5, h6⟩ := h
  have hge := own_ge h2 k hk
  exact ⟨(hg.block _ (by omega) (by simp; omega)).trans h1, ho, gbelow h3 ((Below.refl _ _).grown hg (by omega) (fun j hj => by cases hj; omega)), h4.grown hg (fun g e => by cases e; omega), Nat.le_trans h5 hg.size, h6⟩

/-- a new list instead -/
theorem VI.fresh {R : Nat} {w : World} {m : Int} {n : Nat} {sl v v' : Value} {ls ls' : List Int} {wq w5 : World} (h : VI R w n m sl v ls wq) (hg : wq.grownBy w5 none) (ho : Owns w5 (w.heap.size + 1) v' ls') : VI R w n m sl v' ls' w5 := by
  obtain ⟨h1, h2, h3, h4, h5, h6⟩ := h
  exact ⟨(hg.block _ (by omega) (by simp)).trans h1, ho, gbelow h3 ((Below.refl _ _).grown hg (by omega) (fun j hj => by cases hj)), h4.grown hg (fun g e => by cases e), Nat.le_trans h5 hg.size, h6⟩

/-- What a draw of votes leaves. -/
def VotesPost (R n : Nat) (w : World) (e : Ending) (w' : World) : Prop :=
  ∃ (v : Value) (ls : List Int), e = .returned v ∧ Owns w' w.heap.size v ls ∧ ls.length ≤ 10 ∧ w.grownBy w' (some R) ∧ RD w' R n
theorem VI.done {R : Nat} {w : World} {m : Int} {n k : Nat} {sl v : Value} {ls : List Int} {wq : World} (h : VI R w n m sl v ls wq) (hl : ls.length ≤ 10) (hk : n ≤ k) : VotesPost R k w (.returned v) wq :=
  ⟨v, ls, rfl, h.2.1.le (by omega), hl, h.2.2.1, h.2.2.2.1.more hk⟩


/-- What a draw of a space and votes leaves. -/
def SVPost (R n : Nat) (w : World) (e : Ending) (w' : World) : Prop :=
  ∃ (m : Int) (v : Value) (zs : List Int) (u : Value) (ls : List Int), e = .returned (.tuple #[.agg #[.int .i64 m, v], u]) ∧ Owns w' w.heap.size v zs ∧ (zs.length ≤ 65 ∧ m ≤ 5) ∧ Owns w' w.heap.size u ls ∧ ls.length ≤ 10 ∧ w.grownBy w' (some R) ∧ RD w' R n
theorem QI.votes {R : Nat} {w : World} {m : Int} {n k : Nat} {v u : Value} {zs ls : List Int} {wq : World} (h : QI R w n wq) (ho : Owns wq (w.heap.size + 1) v zs) (hl : zs.length ≤ 65 ∧ m ≤ 5) (hu : Owns wq (w.heap.size + 1) u ls) (hm : ls.length ≤ 10) (hk : n ≤ k) (x y : Value) :
    SVPost R k w (.returned (.tuple #[.agg #[.int .i64 m, v], u])) ((wq.setCell ⟨w.heap.size, 0, none⟩ x).setCell ⟨w.heap.size, 1, none⟩ y) := by
  obtain ⟨_, h2, h3, _, h5⟩ := h
  exact ⟨m, v, zs, u, ls, rfl, (ho.set2 (by omega) _ _).le (by omega), hl, (hu.set2 (by omega) _ _).le (by omega), hm, gbelow (gbelow h2 ((Below.refl _ _).setCell (p := ⟨w.heap.size, 0, none⟩) (Nat.le_refl _) _)) ((Below.refl _ _).setCell (p := ⟨w.heap.size, 1, none⟩) (Nat.le_refl _) _), ((h3.set h5).set h5).more hk⟩
/-- What a draw of a space and votes out of a code leaves. -/
def DrawSVPost (w : World) (e : Ending) (w' : World) : Prop :=
  ∃ (m : Int) (a : Option Addr) (zs : List Int) (cap : Nat) (l : Option Addr) (ls : List Int) (capl : Nat), e = .returned (.tuple #[.agg #[.int .i64 m, .slice a zs.length cap], .slice l ls.length capl]) ∧ Ints w' a zs ∧ zs.length ≤ 65 ∧ Ints w' l ls ∧ ls.length ≤ 10 ∧ Below w.heap.size w w'
end Go.Proofs.Ytnmfhnieknckcaa
