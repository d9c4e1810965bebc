/- A space that is drawn: what is under way, what it becomes. Nothing of the program. -/
import Derived.Test.YtbmodiobgkmngaaOwnP
import Derived.Test.YtbmodiobgkmngaaRead
import Derived.Test.YtbmodiobgkmngaaPairs
import Derived.Test.YtbmodiobgkmngaaBit
import Derived.Test.YtbmodiobgkmngaaGap
namespace Go.Proofs.Ytbmodiobgkmngaa
open Go.RowKit Go.Joins

theorem gbelow {w a b : World} {R : Nat} (h : w.grownBy a (some R)) (hb : Below w.heap.size a b) : w.grownBy b (some R) :=
  ⟨hb.os.trans h.os, hb.tape.trans h.tape, hb.output.trans h.output, Nat.le_trans h.size hb.size, fun k hk hne => (hb.block k hk).trans (h.block k hk hne)⟩
theorem gpick {w a b : World} {R : Nat} (h : w.grownBy a (some R)) (hb : a.grownBy b (some R)) : w.grownBy b (some R) :=
  ⟨hb.os.trans h.os, hb.tape.trans h.tape, hb.output.trans h.output, Nat.le_trans h.size hb.size, fun k hk hne => (hb.block k (Nat.lt_of_lt_of_le hk h.size) hne).trans (h.block k hk hne)⟩
theorem grefl0 (w : World) (R : Nat) : w.grownBy w (some R) := ⟨rfl, rfl, rfl, Nat.le_refl _, fun _ _ _ => rfl⟩
theorem RD.set {w : World} {R n g i : Nat} {v : Value} (h : RD w R n) (hg : R < g) : RD (w.setCell ⟨g, i, none⟩ v) R n := h.grown (gset w g i v) fun k hk => by cases hk; exact hg

/-- a space under way: the answer's block, the space's block, the reader -/
def SI (R : Nat) (w : World) (m : Int) (n : Nat) (vv : Value) (zs : List Int) (wq : World) : Prop :=
  wq.heap[w.heap.size + 1]? = some (.cells #[.int .i64 m, vv] 25 (0, 0)) ∧ Owns wq (w.heap.size + 2) vv zs ∧ wq.heap[w.heap.size]? = some (.cells #[.int .i64 0, .slice none 0 0] 25 (0, 0)) ∧ w.grownBy wq (some R) ∧ RD wq R n ∧ w.heap.size + 2 ≤ wq.heap.size ∧ R < w.heap.size
theorem SI.rd {R : Nat} {w : World} {m : Int} {n : Nat} {vv : Value} {zs : List Int} {wq : World} (h : SI R w m n vv zs wq) : RD wq R n := h.2.2.2.2.1
theorem SI.new {R : Nat} {w : World} {n : Nat} (m : Int) (h : RD w R n) :
    SI R w m n (.slice none 0 0) [] ((w.alloc (.cells #[.int .i64 0, .slice none 0 0] 25)).alloc (.cells #[.int .i64 m, .slice none 0 0] 25)) := by
  have h0 := heap_alloc_new w (.cells #[.int .i64 0, .slice none 0 0] 25)
  have h1 := heap_alloc_new (w.alloc (.cells #[.int .i64 0, .slice none 0 0] 25)) (.cells #[.int .i64 m, .slice none 0 0] 25)
  simp only [World.size_alloc] at h1
  have hb := bel2 w (.cells #[.int .i64 0, .slice none 0 0] 25) (.cells #[.int .i64 m, .slice none 0 0] 25)
  exact ⟨h1, World.ownsRow_nil _ _ _ _, ((bel1 _ _).block w.heap.size (by simp)).trans h0, gbelow (grefl0 w R) hb, h.below hb, by simp, h.lt⟩
theorem SI.below {R : Nat} {w : World} {m : Int} {n : Nat} {vv : Value} {zs : List Int} {wq w' : World} (h : SI R w m n vv zs wq) (hb : Below wq.heap.size wq w') : SI R w m n vv zs w' := by
  obtain ⟨h1, h2, h3, h4, h5, h6, h7⟩ := h
  exact ⟨(hb.block _ (by omega)).trans h1, h2.below hb, (hb.block _ (by omega)).trans h3, gbelow h4 (hb.mono (by omega)), h5.below hb, Nat.le_trans h6 hb.size, h7⟩
theorem SI.pick {R : Nat} {w : World} {m : Int} {n k : Nat} {vv : Value} {zs : List Int} {wq w' : World} (h : SI R w m n vv zs wq) (hg : wq.grownBy w' (some R)) (hr : RD w' R k) : SI R w m k vv zs w' := by
  obtain ⟨h1, h2, h3, h4, _, h6, h7⟩ := h
  exact ⟨(hg.block _ (by omega) (by simp; omega)).trans h1, h2.other hg (fun g e => by cases e; omega), (hg.block _ (by omega) (by simp; omega)).trans h3, gpick h4 hg, hr, Nat.le_trans h6 hg.size, h7⟩
theorem SI.push {R : Nat} {w : World} {m z : Int} {n : Nat} {vv v' : Value} {zs : List Int} {wq w5 : World} {o : Obj} (h : SI R w m n vv zs wq) (hg : (wq.alloc o).grownBy w5 vv.ownBlock)
    (ho : w5.ownsRow (w.heap.size + 2) 3 1 v' (zs.length + 1) (zs.map (Value.int .i64) ++ [.int .i64 z])) :
    SI R w m n v' (zs ++ [z]) (w5.setCell ⟨w.heap.size + 1, 1, none⟩ v') ∧ w5.heap[w.heap.size + 1]? = some (.cells #[.int .i64 m, vv] 25 (0, 0)) := by
  have hs := h.below (bel1 wq o)
  obtain ⟨h1, h2, h3, h4, h5, h6, h7⟩ := hs
  have hne : ∀ k, k < w.heap.size + 2 → some k ≠ vv.ownBlock := fun k hk e => by
    have := own_ge h2 k e.symm
    omega
  have b1 := (hg.block _ (by omega) (hne _ (by omega))).trans h1
  refine ⟨⟨block_setCell (i := 1) b1 _, (Owns.push ho).setBelow (p := ⟨w.heap.size + 1, 1, none⟩) (by show w.heap.size + 1 < w.heap.size + 2; omega) _, ?_, ?_, ?_, ?_, h7⟩, b1⟩
  · exact (Below.heap_setCell _ _ _ _ (by show w.heap.size ≠ w.heap.size + 1; omega)).trans ((hg.block _ (by omega) (hne _ (by omega))).trans h3)
  · exact gbelow h4 (((Below.refl _ _).grown hg (by omega) (fun k hk => by have := own_ge h2 k hk; omega)).setCell (p := ⟨w.heap.size + 1, 1, none⟩) (by show w.heap.size ≤ w.heap.size + 1; omega) _)
  · exact (h5.grown hg (fun g e => by have := own_ge h2 g e; omega)).set (by omega)
  · have := hg.size
    simp; omega

/-- What a draw of a space leaves. -/
def SpacePost (R n : Nat) (w : World) (e : Ending) (w' : World) : Prop :=
  ∃ (m : Int) (v : Value) (zs : List Int), e = .returned (.agg #[.int .i64 m, v]) ∧ Owns w' w.heap.size v zs ∧ (zs.length ≤ 64 ∧ m ≤ 5) ∧ w.grownBy w' (some R) ∧ RD w' R n
theorem SI.done {R : Nat} {w : World} {m : Int} {n k : Nat} {vv : Value} {zs : List Int} {wq : World} (h : SI R w m n vv zs wq) (hl : zs.length ≤ 64 ∧ m ≤ 5) (hk : n ≤ k) (x y : Value) :
    SpacePost R k w (.returned (.agg #[.int .i64 m, vv])) ((wq.setCell ⟨w.heap.size, 0, none⟩ x).setCell ⟨w.heap.size, 1, none⟩ y) := by
  obtain ⟨_, h2, _, h4, h5, _, h7⟩ := h
  refine ⟨m, vv, zs, rfl, (h2.set2 (by omega) _ _).le (by omega), hl, gbelow (gbelow h4 ((Below.refl _ _).setCell (p := ⟨w.heap.size, 0, none⟩) (Nat.le_refl _) _)) ((Below.refl _ _).setCell (p := ⟨w.heap.size, 1, none⟩) (Nat.le_refl _) _), ((h5.set h7).set h7).more hk⟩

/-- how many are to come -/
def lackOf (n : Nat) : Value → Nat
  | .slice _ k _ => n - k
  | _ => 0
theorem swL_len (n : Int) (ps : List (Int × Int)) : (swL n ps).length ≤ 16 := by
  unfold swL
  split
  · rename_i h
    have h1 := swK_len ps (2 ^ n.toNat)
    have h2 := pw_le n h.1.1.2
    have h3 : pw n = ((2 ^ n.toNat : Nat) : Int) := rfl
    omega
  · simp
theorem swN_le {n : Int} (ps : List (Int × Int)) (h : n ≤ 4) : swN n ps ≤ 5 := by
  unfold swN
  split <;> omega
theorem SI.more {R : Nat} {w : World} {m : Int} {n k : Nat} {vv : Value} {zs : List Int} {wq : World} (h : SI R w m n vv zs wq) (hk : n ≤ k) : SI R w m k vv zs wq :=
  ⟨h.1, h.2.1, h.2.2.1, h.2.2.2.1, h.2.2.2.2.1.more hk, h.2.2.2.2.2⟩
theorem SI.drew {R : Nat} {w : World} {m : Int} {n : Nat} {vv : Value} {zs : List Int} {wq : World} (h : SI R w m n vv zs wq) : SI R w m n vv zs wq.drew := h.below (bdrew' (Below.refl _ _))
theorem SI.out {R : Nat} {w : World} {m m' : Int} {n k : Nat} {vv v : Value} {zs L : List Int} {wq w6 : World} {o : Obj} (h : SI R w m n vv zs wq) (hB : Below wq.heap.size wq w6) (hown : Owns w6 wq.heap.size v L) (hl : L.length ≤ 64 ∧ m' ≤ 5) (hk : n ≤ k) (x y : Value) :
    SpacePost R k w (.returned (.agg #[.int .i64 m', v])) (((w6.alloc o).setCell ⟨w.heap.size, 0, none⟩ x).setCell ⟨w.heap.size, 1, none⟩ y) := by
  obtain ⟨_, _, _, h4, h5, _, h7⟩ := (h.below hB).below (bel1 w6 o)
  have h6 := h.2.2.2.2.2.1
  refine ⟨m', v, L, rfl, ((hown.below (bel1 w6 o)).set2 (by omega) _ _).le (by omega), hl, gbelow (gbelow h4 ((Below.refl _ _).setCell (p := ⟨w.heap.size, 0, none⟩) (Nat.le_refl _) _)) ((Below.refl _ _).setCell (p := ⟨w.heap.size, 1, none⟩) (Nat.le_refl _) _), ((h5.set h7).set h7).more hk⟩
theorem SI.pushP {R : Nat} {w : World} {m : Int} {n : Nat} {vv v : Value} {zs : List Int} {ps : List (Int × Int)} {wq w5 : World} {o : Obj} (h : SI R w m n vv zs wq) (hp : OwnsP wq (w.heap.size + 2) v ps) (hz : vv = .slice none 0 0 ∧ zs = [])
    (hg : (wq.alloc o).grownBy w5 v.ownBlock) : SI R w m n vv zs w5 := by
  obtain ⟨rfl, rfl⟩ := hz
  have hp' : wq.ownsRow (w.heap.size + 2) 79 2 v ps.length (pflat ps) := hp
  have hge : ∀ k, v.ownBlock = some k → w.heap.size + 2 ≤ k := fun k hk => (World.ownsRow.lt hp' k hk).1
  obtain ⟨h1, _, h3, h4, h5, h6, h7⟩ := h.below (bel1 wq o)
  have hne : ∀ k, k < w.heap.size + 2 → some k ≠ v.ownBlock := fun k hk e => by
    have := hge k e.symm
    omega
  exact ⟨(hg.block _ (by omega) (hne _ (by omega))).trans h1, World.ownsRow_nil _ _ _ _, (hg.block _ (by omega) (hne _ (by omega))).trans h3, gbelow h4 ((Below.refl _ _).grown hg (by omega) (fun k hk => by have := hge k hk; omega)), h5.grown hg (fun g e => by have := hge g e; omega), Nat.le_trans h6 hg.size, h7⟩
end Go.Proofs.Ytbmodiobgkmngaa
