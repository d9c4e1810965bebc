/- An append to a slice that a call has made, told where the new one lies (as Apart, beside spaces). -/
import Derived.Test.YtcnoipghepjodaaDoorMark
import Derived.OwnWalk
import Derived.OpenShut
import Derived.ArgAppend
namespace Go.Proofs.YtcnoipghepjodaaDoor
open Go.RowKit Go.Joins

def lenW : Value → Nat
  | .slice _ n _ => n
  | _ => 0
theorem owns_of_row {w : World} {B n : Nat} {v : Value} {zs : List Int} (h : w.ownsRow B 3 1 v n (zs.map (Value.int .i64))) (hz : zs.length = n) : Owns w B v zs := by
  subst hz; exact h
theorem row_of_owns {w : World} {B n : Nat} {v : Value} {zs : List Int} (h : Owns w B v zs) (hz : zs.length = n) : w.ownsRow B 3 1 v n (zs.map (Value.int .i64)) := by
  subst hz; exact h
theorem grown_weak {w w' : World} {row : Option Nat} (h : w.grownBy w' none) : w.grownBy w' row := ⟨h.os, h.tape, h.output, h.size, fun k hk _ => h.block k hk (by simp)⟩
theorem wpList_append_apart {P : Program} (w : World) {ops : Array Oper} {rest : List Oper} {o : Oper} {a : Act} {Q : Exit → Act → World → Prop} (hgd : o.guard = none) (s x : Operand) (t : TypeId)
    (ho : o.op = .call { callee := .builtin .append, args := #[s, x], argTypes := #[t, t] })
    (base : Nat) (e : TypeId) (i : TypeInfo) (z : Value) (size bytes : Nat) (ht : P.underlying t = some (.slice e)) (hi : P.info? e = some i) (hz : i.zero = some z)
    (hsize : i.size = size) (hby : i.bytes = bytes) (hzs : z.cells.size = size) (hsz : 0 < size)
    (v : Value) (n : Nat) (xs : List Value) (hs : a.eval s = v) (hown : w.ownsRow base e size v n xs)
    (ad : Addr) (m c : Nat) (news : List Value) (hx : a.eval x = .slice (some ad) m c) (hl : news.length = m * size) (hnews : ∀ j u, news[j]? = some u → w.cell? (ad.add j) = some u) (h1 : ∀ u ∈ news, u.oneCell' = true) (hm : 0 < m)
    (h63 : n + m ≤ maxLen) (hbytes : (n + m) * bytes ≤ 140737488355328) (hbase : base ≤ w.heap.size)
    (h : ∀ v' w', w'.ownsRow base e size v' (n + m) (xs ++ news) → w.grownBy w' v.ownBlock → (∀ g, g < w.heap.size → v.ownBlock ≠ some g → v'.ownBlock ≠ some g) → wpList P ops Q rest (a.put o.dst v') w') : wpList P ops Q (o :: rest) a w := by
  have new : ∀ v' (w' : World), w'.ownsRow w.heap.size e size v' (n + m) (xs ++ news) → w.grownBy w' none → wpList P ops Q rest (a.put o.dst v') w' := fun v' w' o1 g1 => by
    have hn : ∀ k, v'.ownBlock = some k → w.heap.size ≤ k := fun k hk => (World.ownsRow.lt o1 k hk).1
    refine h v' w' (ownsRow_le o1 hbase) (grown_weak g1) (fun g hg _ e' => by have := hn g e'; omega)
  have hlen : xs.length = n * size := hown.1
  rcases hown.2 with ⟨h0, h00⟩ | ⟨g, cap, cur, hv, hb, hh, k1, k2, k3, k4⟩
  · have hz0 : n = 0 := by simpa using h00
    exact wpList_append_grows w hgd s x t ho e i z size bytes ht hi hz hsize hby hzs hsz none n 0 xs (by rw [hs, h0, hz0]) (fun _ => ⟨hz0, rfl⟩) hlen (fun b e => by cases e) ad m c news hx hl hnews h1 (by omega) h63 hbytes fun v' w' o1 g1 => new v' w' o1 g1
  · subst hv
    by_cases hroom : n + m ≤ cap
    · exact wpList_append_fits w hgd s x t ho base e i size ht hi hsize g n cap xs hs hown ad m c news hx hl hnews h1 hroom fun w' o1 g1 => h _ w' o1 g1 (fun g' _ hne => hne)
    · exact wpList_append_grows w hgd s x t ho e i z size bytes ht hi hz hsize hby hzs hsz (some ⟨g, 0, none⟩) n cap xs hs (fun e => by cases e) hlen (fun b e j u hu => by
        cases e
        have hl := (List.getElem?_eq_some_iff.1 hu).1
        have e1 : (⟨g, 0, none⟩ : Addr).add j = ⟨g, j, none⟩ := by
          unfold Addr.add
          by_cases h : j = 0 <;> simp [h]
        rw [e1, hown.cellAt j (by omega)]
        exact hu) ad m c news hx hl hnews h1 (by omega) h63 hbytes fun v' w' o1 g1 => new v' w' o1 g1
end Go.Proofs.YtcnoipghepjodaaDoor
