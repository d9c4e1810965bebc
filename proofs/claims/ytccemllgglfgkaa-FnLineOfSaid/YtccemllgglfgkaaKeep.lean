/- An append that leaves the shorter list as it was: in a row with room, and where there is none. -/
import Derived.Test.YtccemllgglfgkaaSV
import Derived.ArgAppend
import Derived.Deep.DeepAppendRoom
namespace Go.Proofs.Ytccemllgglfgkaa
open Go.RowKit Go.Joins

theorem own_less {w : World} {base g cap : Nat} {zs : List Int} {x : Int} (h : w.ownsRow base 3 1 (.slice (some ⟨g, 0, none⟩) (zs.length + 1) cap) (zs.length + 1) (zs.map (Value.int .i64) ++ [.int .i64 x])) : Owns w base (.slice (some ⟨g, 0, none⟩) zs.length cap) zs := by
  rcases h.2 with ⟨h0, _⟩ | ⟨g', cap', cur, hv, hb, hh, h1, h2, h3, h4⟩
  · cases h0
  · cases hv
    refine ⟨by simp, .inr ⟨g, cap, cur, rfl, hb, hh, by omega, h2, h3, ?_⟩⟩
    have h5 := congrArg (List.take (zs.length * 1)) h4
    rw [List.take_take, Nat.min_eq_left (by omega), List.take_left' (by simp)] at h5
    exact h5
theorem wpList_append_keep {P : Program} (w : World) {ops : Array Oper} {rest : List Oper} {o : Oper} {a : Act} {Q : Exit → Act → World → Prop} (hgd : o.guard = none) (s x : Operand) (t : TypeId)
    (ho : o.op = .call { callee := .builtin .append, args := #[s, x], argTypes := #[t, t] })
    (base : Nat) (i : TypeInfo) (z : Value) (bytes : Nat) (ht : P.underlying t = some (.slice 3)) (hi : P.info? 3 = some i) (hz : i.zero = some z)
    (hsize : i.size = 1) (hby : i.bytes = bytes) (hzs : z.cells.size = 1)
    (v : Value) (zs : List Int) (hs : a.eval s = v) (hown : Owns w base v zs) (y : Int)
    (ad : Addr) (c : Nat) (hx : a.eval x = .slice (some ad) 1 c) (hnews : ∀ j u, [Value.int .i64 y][j]? = some u → w.cell? (ad.add j) = some u)
    (h63 : zs.length + 1 ≤ maxLen) (hbytes : (zs.length + 1) * bytes ≤ 140737488355328) (hbase : base ≤ w.heap.size)
    (h : ∀ v' w', Owns w' base v' (zs ++ [y]) → (∀ W, Owns W base v' (zs ++ [y]) → w'.grownBy W v'.ownBlock → Owns W base v zs) → (∀ W, w'.grownBy W v'.ownBlock → w.grownBy W v.ownBlock) → w.heap.size ≤ w'.heap.size → wpList P ops Q rest (a.put o.dst v') w') : wpList P ops Q (o :: rest) a w := by
  have h1 : ∀ u ∈ [Value.int .i64 y], u.oneCell' = true := by intro u hu; simp at hu; subst hu; rfl
  have fin : ∀ v' (w' : World) b, b ≥ base → w'.ownsRow b 3 1 v' (zs.length + 1) (zs.map (Value.int .i64) ++ [.int .i64 y]) → Owns w' base v' (zs ++ [y]) := fun v' w' b hb h => (Owns.push h).le hb
  have hown' : w.ownsRow base 3 1 v zs.length (zs.map (Value.int .i64)) := hown
  have new : ∀ v' (w' : World), w'.ownsRow w.heap.size 3 1 v' (zs.length + 1) (zs.map (Value.int .i64) ++ [.int .i64 y]) → w.grownBy w' none → wpList P ops Q rest (a.put o.dst v') w' := fun v' w' o1 g1 => by
    have hn : ∀ k, v'.ownBlock = some k → w.heap.size ≤ k := fun k hk => (World.ownsRow.lt o1 k hk).1
    have hv : ∀ k, v.ownBlock = some k → k < w.heap.size := fun k hk => (World.ownsRow.lt hown k hk).2
    have k1 : Owns w' base v zs := own_kept hown g1 (fun k e => by cases e)
    refine h v' w' (fin v' w' _ hbase o1) (fun W _ gW => own_kept k1 gW (fun k e e' => by have := hn k e; have := hv k e'; omega)) (fun W gW => ⟨gW.os.trans g1.os, gW.tape.trans g1.tape, gW.output.trans g1.output, Nat.le_trans g1.size gW.size, fun k hk _ => ?_⟩) g1.size
    rw [gW.block k (by have := g1.size; omega) (fun e => by have := hn k e.symm; omega)]
    exact g1.block k hk (by simp)
  rcases hown'.2 with ⟨h0, h00⟩ | ⟨g, cap, cur, hv, hb, hh, k1, k2, k3, k4⟩
  · have hz0 : zs.length = 0 := by simpa using h00
    exact wpList_append_grows w hgd s x t ho 3 i z 1 bytes ht hi hz hsize hby hzs (by omega) none zs.length 0 (zs.map (Value.int .i64)) (by rw [hs, h0, hz0]) (fun _ => ⟨hz0, rfl⟩) (by simp) (fun b e => by cases e) ad 1 c [.int .i64 y] hx rfl hnews h1 (by omega) h63 hbytes fun v' w' o1 g1 => new v' w' o1 g1
  · subst hv
    by_cases hroom : zs.length + 1 ≤ cap
    · refine wpList_append_own_spare w hgd s x t ho base 3 i 1 ht hi hsize g zs.length cap (zs.map (Value.int .i64)) hs hown' ad 1 c [.int .i64 y] hx rfl hnews h1 hroom fun w' o1 g1 => ?_
      refine h _ w' (fin _ w' _ (Nat.le_refl _) o1) (fun W oW _ => own_less (x := y) (by
        have e : (zs ++ [y]).length = zs.length + 1 := by simp
        unfold Owns at oW
        rw [e, List.map_append] at oW
        exact oW)) (fun W gW => ⟨gW.os.trans g1.os, gW.tape.trans g1.tape, gW.output.trans g1.output, Nat.le_trans g1.size gW.size, fun k hk hne => ?_⟩) g1.size
      rw [gW.block k (by have := g1.size; omega) hne]
      exact g1.block k hk hne
    · exact wpList_append_grows w hgd s x t ho 3 i z 1 bytes ht hi hz hsize hby hzs (by omega) (some ⟨g, 0, none⟩) zs.length cap (zs.map (Value.int .i64)) hs (fun e => by cases e) (by simp) (fun b e j u hu => by
        cases e
        have hl := (List.getElem?_eq_some_iff.1 hu).1
        have e1 : (⟨g, 0, none⟩ : Addr).add j = ⟨g, j, none⟩ := by
          unfold Addr.add
          by_cases h : j = 0 <;> simp [h]
        rw [e1, hown'.cellAt j (by simpa using hl)]
        exact hu) ad 1 c [.int .i64 y] hx rfl hnews h1 (by omega) h63 hbytes fun v' w' o1 g1 => new v' w' o1 g1
end Go.Proofs.Ytccemllgglfgkaa
