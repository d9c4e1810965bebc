/- The draws with names of claims and scores. -/
import Derived.Test.YthkikjidkehheaaDrawB2
import Derived.Test.YthkikjidkehheaaBest
namespace Go.Proofs.Ythkikjidkehheaa
open Go.RowKit Go.Joins

theorem results_tmp4 {fn : Func} {t u v x : Tmp} (h : fn.results = #[.tmp t, .tmp u, .tmp v, .tmp x]) (tmps : Array Value) (P : Program) (w : World) :
    (results fn tmps).run P w = .ok (.tuple #[tmps.getD t undef, tmps.getD u undef, tmps.getD v undef, tmps.getD x undef]) w := by
  simp [results, h]
theorem results_tmp5 {fn : Func} {t u v x y : Tmp} (h : fn.results = #[.tmp t, .tmp u, .tmp v, .tmp x, .tmp y]) (tmps : Array Value) (P : Program) (w : World) :
    (results fn tmps).run P w = .ok (.tuple #[tmps.getD t undef, tmps.getD u undef, tmps.getD v undef, tmps.getD x undef, tmps.getD y undef]) w := by
  simp [results, h]
theorem Ints.other {w w' : World} {a : Option Addr} {zs : List Int} {row : Option Nat} (h : Ints w a zs) (hg : w.grownBy w' row) (hne : ∀ b o s, a = some ⟨b, o, s⟩ → row ≠ some b) : Ints w' a zs := fun hz => by
  obtain ⟨b, off, e, hlt, hc⟩ := h hz
  exact ⟨b, off, e, Nat.lt_of_lt_of_le hlt hg.size, fun k hk => hg.cell (hc k hk) (fun e' => hne b off none e e'.symm)⟩
/-- A slice value whose address is a reads as the strings ss. -/
def Strs (w : World) (a : Option Addr) (ss : List ByteArray) : Prop :=
  ∃ b off, a = some ⟨b, off, none⟩ ∧ b < w.heap.size ∧ ∀ k, k < ss.length → w.cell? ⟨b, off + k, none⟩ = some (.string (ss.getD k ByteArray.empty))
theorem litS (w : World) (ss : List ByteArray) : Strs (w.alloc (.cells (ss.map Value.string).toArray 9)) (some ⟨w.heap.size, 0, none⟩) ss :=
  ⟨w.heap.size, 0, rfl, by simp, fun k hk => by
    rw [Nat.zero_add]
    simp [go_sem, hk, List.getD_eq_getElem?_getD]⟩
/-- What 'of' leaves. -/
def OfPost (R n : Nat) (w : World) (e : Ending) (w' : World) : Prop :=
  ∃ s : ByteArray, e = .returned (.string s) ∧ w.grownBy w' (some R) ∧ RD w' R (n + 1)
/-- What a draw of a claim, ballots, seats and a committee leaves, the committee being one of the names. -/
def DrawW2 (w : World) (e : Ending) (w' : World) : Prop :=
  ∃ (s : ByteArray) (c : Int) (a : Option Addr) (bs : List Int) (cap : Nat) (k x : Int), e = .returned (.tuple #[.string s, .int .i64 c, .slice a bs.length cap, .int .i64 k, .int .i64 x]) ∧ (0 ≤ c ∧ c ≤ 6) ∧ Ints w' a bs ∧ bs.length ≤ 6 ∧ (0 ≤ x ∧ x ≤ 31) ∧ Below w.heap.size w w' ∧ (c ≤ 5 → x ≤ pw c - 1)
/-- What a draw of a claim, ballots, seats and a committee leaves. -/
def DrawW (w : World) (e : Ending) (w' : World) : Prop :=
  ∃ (s : ByteArray) (c : Int) (a : Option Addr) (bs : List Int) (cap : Nat) (k x : Int), e = .returned (.tuple #[.string s, .int .i64 c, .slice a bs.length cap, .int .i64 k, .int .i64 x]) ∧ (0 ≤ c ∧ c ≤ 6) ∧ Ints w' a bs ∧ bs.length ≤ 6 ∧ (0 ≤ x ∧ x ≤ 31) ∧ Below w.heap.size w w'
end Go.Proofs.Ythkikjidkehheaa
