/- The draws of arguments: a space with a number beside it. -/
import Derived.Test.YtccemllgglfgkaaDrawM
import Derived.Deep.RegionWith
import Derived.Deep.DeepCutAuto
namespace Go.Proofs.Ytccemllgglfgkaa
open Go.RowKit Go.Joins

theorem Ints.other {w w' : World} {a : Option Addr} {zs : List Int} {row : Option Nat} (h : Ints w a zs) (hg : w.grownBy w' row) (hne : ∀ b o s, a = some ⟨b, o, s⟩ → row ≠ some b) : Ints w' a zs := fun hz => by
  obtain ⟨b, off, e, hlt, hc⟩ := h hz
  exact ⟨b, off, e, Nat.lt_of_lt_of_le hlt hg.size, fun k hk => hg.cell (hc k hk) (fun e' => hne b off none e e'.symm)⟩

/-- a cell of a block that holds no bytes -/
theorem RD.setOld {w : World} {R n g i : Nat} {v : Value} (h : RD w R n) (hg : g ≠ R) (hu : ∀ o (z : Nat), w.cell? ⟨g, o, none⟩ ≠ some (.int .u8 z)) : RD (w.setCell ⟨g, i, none⟩ v) R n := by
  obtain ⟨a, zs, cap, p, hblk, hp, hl, hby, hR⟩ := h
  have hs := gset w g i v
  refine ⟨a, zs, cap, p, (hs.block R (lt_of_block hblk) (by simp; omega)).trans hblk, hp, hl, ⟨fun hz => ?_, hby.2⟩, hR⟩
  obtain ⟨b, off, e, hb, hc⟩ := hby.1 hz
  have hbg : b ≠ g := fun e' => by
    have := hc 0 hz
    rw [e'] at this
    exact hu _ _ this
  exact ⟨b, off, e, by simpa using hb, fun k hk => hs.cell (hc k hk) (by simp; omega)⟩
theorem no_bytes {w : World} {g : Nat} {m : Int} {a : Option Addr} {len cap : Nat} (h : w.heap[g]? = some (.cells #[.int .i64 m, .slice a len cap] 28 (0, 0))) : ∀ o (z : Nat), w.cell? ⟨g, o, none⟩ ≠ some (.int .u8 z) := fun o z e => by
  rw [cell_of_block h o] at e
  match o, e with
  | 0, e => simp at e
  | 1, e => simp at e
  | o + 2, e => simp at e

/-- a drawn space in a variable of block B, an answer's cells x and y, the reader in block R -/
def DS (R : Nat) (w : World) (n : Nat) (x y : Value) (B : Nat) (m : Int) (a : Option Addr) (cap : Nat) (zs : List Int) (wq : World) : Prop :=
  wq.heap[w.heap.size]? = some (.cells #[x, y] 28 (0, 0)) ∧ wq.heap[B]? = some (.cells #[.int .i64 m, .slice a zs.length cap] 28 (0, 0)) ∧
    Ints wq a zs ∧ (∀ b o s, a = some ⟨b, o, s⟩ → R < b) ∧ Below w.heap.size w wq ∧ RD wq R n ∧ w.heap.size < R ∧ R < B
theorem DS.rd {R n B cap : Nat} {w wq : World} {x y : Value} {m : Int} {a : Option Addr} {zs : List Int} (h : DS R w n x y B m a cap zs wq) : RD wq R n := h.2.2.2.2.2.1
theorem DS.ints {R n B cap : Nat} {w wq : World} {x y : Value} {m : Int} {a : Option Addr} {zs : List Int} (h : DS R w n x y B m a cap zs wq) : Ints wq a zs := h.2.2.1
theorem DS.ne {R n B cap : Nat} {w wq : World} {x y : Value} {m : Int} {a : Option Addr} {zs : List Int} (h : DS R w n x y B m a cap zs wq) : ∀ b o s, a = some ⟨b, o, s⟩ → b ≠ R := fun b o s e => by
  have := h.2.2.2.1 b o s e
  omega
theorem DS.bel {R n B cap : Nat} {w wq : World} {x y : Value} {m : Int} {a : Option Addr} {zs : List Int} (h : DS R w n x y B m a cap zs wq) : Below w.heap.size w wq := h.2.2.2.2.1
theorem DS.pick {R n k B cap : Nat} {w wq w' : World} {x y : Value} {m : Int} {a : Option Addr} {zs : List Int} (h : DS R w n x y B m a cap zs wq) (hg : wq.grownBy w' (some R)) (hr : RD w' R k) : DS R w k x y B m a cap zs w' := by
  obtain ⟨h1, h2, h3, h4, h5, _, h7, h8⟩ := h
  exact ⟨(hg.block _ (lt_of_block h1) (by simp; omega)).trans h1, (hg.block _ (lt_of_block h2) (by simp; omega)).trans h2, h3.other hg (fun b o s e e' => by
    have h4' := h4 b o s e
    have : R = b := by simpa using e'
    omega), h4, bgrown h5 hg h5.size (fun k hk => by cases hk; omega), hr, h7, h8⟩
theorem DS.below {R n B cap : Nat} {w wq w' : World} {x y : Value} {m : Int} {a : Option Addr} {zs : List Int} (h : DS R w n x y B m a cap zs wq) (hb : Below wq.heap.size wq w') : DS R w n x y B m a cap zs w' := by
  obtain ⟨h1, h2, h3, h4, h5, h6, h7, h8⟩ := h
  exact ⟨(hb.block _ (lt_of_block h1)).trans h1, (hb.block _ (lt_of_block h2)).trans h2, h3.below hb, h4, h5.trans (hb.mono h5.size), h6.below hb, h7, h8⟩
theorem DS.drew {R n B cap : Nat} {w wq : World} {x y : Value} {m : Int} {a : Option Addr} {zs : List Int} (h : DS R w n x y B m a cap zs wq) : DS R w n x y B m a cap zs wq.drew := h.below (bdrew' (Below.refl _ _))
theorem DS.set2 {R n B cap n0 c0 n1 c1 : Nat} {w wq : World} {k k' : Int} {a0 a1 : Option Addr} {m : Int} {a : Option Addr} {zs : List Int} (h : DS R w n (.int .i64 k) (.slice a0 n0 c0) B m a cap zs wq) :
    DS R w n (.int .i64 k') (.slice a1 n1 c1) B m a cap zs ((wq.setCell ⟨w.heap.size, 0, none⟩ (.int .i64 k')).setCell ⟨w.heap.size, 1, none⟩ (.slice a1 n1 c1)) := by
  obtain ⟨h1, h2, h3, h4, h5, h6, h7, h8⟩ := h
  have s1 := block_setCell (i := 0) h1 (.int .i64 k')
  refine ⟨block_setCell (i := 1) s1 _, ?_, (h3.other (gset wq _ 0 _) ?_).other (gset _ _ 1 _) ?_, h4, (h5.setCell (p := ⟨w.heap.size, 0, none⟩) (Nat.le_refl _) _).setCell (p := ⟨w.heap.size, 1, none⟩) (Nat.le_refl _) _,
    (h6.setOld (by omega) (no_bytes h1)).setOld (by omega) (no_bytes s1), h7, h8⟩
  · exact (Below.heap_setCell _ _ _ _ (by show B ≠ w.heap.size; omega)).trans ((Below.heap_setCell _ _ _ _ (by show B ≠ w.heap.size; omega)).trans h2)
  all_goals
    intro b o s e e'
    have h4' := h4 b o s e
    have : w.heap.size = b := by simpa using e'
    omega
theorem DS.new {R : Nat} {w w1 w2 : World} {m : Int} {v : Value} {zs : List Int} {n : Nat}
    (hR : w.heap.size + 1 ≤ R) (rd : RD w1 R 0) (s1 : w1.heap[w.heap.size]? = some (.cells #[.int .i64 0, .slice none 0 0] 28 (0, 0))) (B1 : Below w.heap.size w w1)
    (own : Owns w2 w1.heap.size v zs) (g : w1.grownBy w2 (some R)) (rd2 : RD w2 R n) :
    ∃ a cap, v = .slice a zs.length cap ∧ DS R w n (.int .i64 0) (.slice none 0 0) w2.heap.size m a cap zs (w2.alloc (.cells #[.int .i64 m, v] 28)) := by
  obtain ⟨a, cap, rfl, iv, hge⟩ := own.form
  have hlt := rd.lt
  have hlt2 := g.size
  refine ⟨a, cap, rfl, ?_⟩
  have hb := bel1 w2 (.cells #[.int .i64 m, .slice a zs.length cap] 28)
  refine ⟨(hb.block _ (Nat.lt_of_lt_of_le (lt_of_block s1) hlt2)).trans ((g.block _ (lt_of_block s1) (by simp; omega)).trans s1), heap_alloc_new _ _, iv.below hb, fun b o s e => by have := (hge b o s e).1; omega, ?_, rd2.below hb, by omega, by omega⟩
  exact (bgrown B1 g B1.size (fun k hk => by cases hk; omega)).trans (hb.mono (by have := B1.size; omega))

/-- What a draw of a space and a number leaves. -/
def DrawSIPost (w : World) (e : Ending) (w' : World) : Prop :=
  ∃ (m : Int) (a : Option Addr) (zs : List Int) (cap : Nat) (x : Int), e = .returned (.tuple #[.agg #[.int .i64 m, .slice a zs.length cap], .int .i64 x]) ∧ Ints w' a zs ∧ zs.length ≤ 65 ∧ Below w.heap.size w w'
theorem DS.si {R n B cap : Nat} {w wq : World} {x y : Value} {m z : Int} {a : Option Addr} {zs : List Int} (h : DS R w n x y B m a cap zs wq) (hl : zs.length ≤ 65) : DrawSIPost w (.returned (.tuple #[.agg #[.int .i64 m, .slice a zs.length cap], .int .i64 z])) wq :=
  ⟨m, a, zs, cap, z, rfl, h.ints, hl, h.bel⟩

/-- What a draw of a judgment leaves. -/
def JudgePost (R n : Nat) (w : World) (e : Ending) (w' : World) : Prop :=
  ∃ x : Int, e = .returned (.int .i64 x) ∧ w.grownBy w' (some R) ∧ RD w' R n

end Go.Proofs.Ytccemllgglfgkaa
