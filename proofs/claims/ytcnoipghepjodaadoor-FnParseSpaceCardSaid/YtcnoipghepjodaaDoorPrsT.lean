/- ParseSpace of the model, out of parseSpace's contract. -/
import Derived.Test.YtcnoipghepjodaaDoorPrsN
import Derived.Test.YtcnoipghepjodaaDoorPrsR
namespace Go.Proofs.YtcnoipghepjodaaDoor
open Go.RowKit Go.Joins

/-- what parseSpace gives -/
def PaE (o : Option (Int × List Int)) (w w' : World) (e : Ending) : Prop := ∃ n zs a cap b, e = .returned (.tuple #[.agg #[.int .i64 n, .slice a zs.length cap], .bool b]) ∧ Owns w' w.heap.size (.slice a zs.length cap) zs ∧ o = if b = true then some (n, zs) else none
set_option maxHeartbeats 1000000 in
theorem specParse_of (s : ByteArray) (o : Option (Int × List Int)) (w : World) (HP : ∀ W : World, Calls Tryd.prog 34 #[.string s] W fun e w' => PaE o W w' e ∧ Below W.heap.size W w') :
    Calls Tryd.prog 13 #[.string s] w fun e w' => PsE o w w' e ∧ Below w.heap.size w w' := by
  have HPH := hide HP
  have BB := bel1 w (.cells #[.int .i64 0, .slice none 0 0] 25)
  have kb := heap_alloc_new w (.cells #[.int .i64 0, .slice none 0 0] 25)
  obtain ⟨W, hW⟩ : ∃ W : World, W = w.alloc (.cells #[.int .i64 0, .slice none 0 0] 25) := ⟨_, rfl⟩
  rw [← hW] at BB kb
  have hW1 : w.heap.size < W.heap.size := lt_of_block kb
  clear HP
  go_enter Tryd.func13, Tryd.ntmps13
  go_wp2_with fail
  rw [← hW]
  clear hW
  refine (HPH.out _).mono ?_
  rintro e w1 ⟨⟨n, zs, a, cap, b, rfl, OW, ho⟩, hb1⟩
  have B1 := BB.trans (hb1.mono BB.size)
  have r1 := (hb1.block _ hW1).trans kb
  have hs1 : w.heap.size < w1.heap.size := lt_of_block r1
  have bb := bel1 w1 (.cells #[.int .i64 n, .slice a zs.length cap] 25)
  have k2 := heap_alloc_new w1 (.cells #[.int .i64 n, .slice a zs.length cap] 25)
  have f0 := unfrozen_of_block r1 0
  have f1 := unfrozen_of_block r1 1
  have g0 := cell_of_block r1 0
  have g1 := cell_of_block r1 1
  have x0 := cell_of_block k2 0
  have x1 := cell_of_block k2 1
  have HRS := hide r1
  have HOW := hide OW
  have fin : ∀ u v : Value, Below w.heap.size w (((w1.setCell ⟨w.heap.size, 0, none⟩ u).setCell ⟨w.heap.size, 1, none⟩ v).alloc (.cells #[.int .i64 n, .slice a zs.length cap] 25)) := fun u v => ((B1.setCell (p := ⟨w.heap.size, 0, none⟩) (Nat.le_refl _) u).setCell (p := ⟨w.heap.size, 1, none⟩) (Nat.le_refl _) v).alloc (by simp; omega) _
  clear r1 k2 kb OW hb1 bb
  cases b with
  | true =>
    have HO := hide ho
    clear ho
    go_wp2
    refine bodyPost_ret (ret_spb rfl _ _ _ _ _ rfl (((bel1 _ _).block _ (by simp; exact hs1)).trans (block_setCell (i := 1) (block_setCell (i := 0) HRS.out _) _))) rfl ?_
    refine ⟨.inl ⟨n, zs, a, cap, HO.out, rfl, ?_⟩, fin _ _⟩
    exact (((HOW.out.setBelow (p := ⟨w.heap.size, 0, none⟩) hW1 _).setBelow (p := ⟨w.heap.size, 1, none⟩) hW1 _).below (bel1 _ _)).le (Nat.le_of_lt hW1)
  | false =>
    have HO := hide ho
    clear ho
    go_wp2
    refine bodyPost_ret (ret_spb rfl _ _ _ _ _ rfl (((bel1 _ _).block _ (by simp; exact hs1)).trans (block_setCell (i := 1) (block_setCell (i := 0) HRS.out _) _))) rfl ?_
    exact ⟨.inr ⟨HO.out, rfl⟩, fin _ _⟩
end Go.Proofs.YtcnoipghepjodaaDoor
