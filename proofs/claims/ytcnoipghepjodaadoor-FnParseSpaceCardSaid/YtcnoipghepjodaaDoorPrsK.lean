/- ParseSpace of the program. -/
import Derived.Test.YtcnoipghepjodaaDoorPrsJ
import Derived.Test.YtcnoipghepjodaaDoorPrsR
namespace Go.Proofs.YtcnoipghepjodaaDoor
open Go.RowKit Go.Joins

theorem cut_was (s H T : ByteArray) (b : Bool) (w : World) (hs : s.size ≤ 1048576) (hg : GV w) (hH : ⟨(Lib.cut s.data.toList [58]).1.toArray⟩ = H) (hT : ⟨(Lib.cut s.data.toList [58]).2.1.toArray⟩ = T) (hb : (Lib.cut s.data.toList [58]).2.2 = b) :
    Calls Tryd.prog 27 #[.string s, .string ⟨#[58]⟩] w fun e w' => e = .returned (.tuple #[.string H, .string T, .bool b]) ∧ Below w.heap.size w w' := by
  subst hH hT hb
  obtain ⟨m, hm⟩ := hg.ml
  refine (Tryd.strings_Cut s ⟨#[58]⟩ m w (by omega) hm).mono ?_
  rintro e w' ⟨rfl, n, rfl⟩
  exact ⟨rfl, ⟨rfl, rfl, rfl, Nat.le_refl _, fun _ _ => rfl⟩⟩
theorem cut_small (l : List UInt8) : (Lib.cut l [58]).1.length ≤ l.length ∧ ((Lib.cut l [58]).2.1.length = 0 ∨ (Lib.cut l [58]).2.1.length + 1 ≤ l.length) := by
  rcases cut_spl 58 l with ⟨_, hc⟩ | ⟨a, b, rfl, _, hc⟩
  · rw [hc]; simp
  · rw [hc]
    simp only [List.length_append, List.length_cons]
    omega
def bothO : Option Int → Option (List Int) → Option (Int × List Int)
  | some n, some zs => if vsB n zs = true then some (n, zs) else none
  | _, _ => none
theorem parI_eq (l : List UInt8) (o1 : Option Int) (o2 : Option (List Int)) (h1 : prN (Lib.cut l [58]).1 = o1) (h2 : prL (spl 44 (Lib.cut l [58]).2.1) = o2) : parS l = bothO o1 o2 := by
  subst h1 h2
  rw [← par_same]
  unfold parI bothO
  rfl
set_option maxHeartbeats 2000000 in
set_option maxRecDepth 100000 in
theorem implParse_any (s : ByteArray) (o : Option (Int × List Int)) (w : World) (hs : s.size ≤ 1048576) (hg : GV w) (ho : parS s.data.toList = o) :
    Calls Tryd.prog 10 #[.string s] w fun e w' => PsE o w w' e ∧ Below w.heap.size w w' := by
  subst ho
  obtain ⟨H, hH⟩ : ∃ H : ByteArray, ⟨(Lib.cut s.data.toList [58]).1.toArray⟩ = H := ⟨_, rfl⟩
  obtain ⟨T, hT⟩ : ∃ T : ByteArray, ⟨(Lib.cut s.data.toList [58]).2.1.toArray⟩ = T := ⟨_, rfl⟩
  obtain ⟨b, hb⟩ : ∃ b, (Lib.cut s.data.toList [58]).2.2 = b := ⟨_, rfl⟩
  have hHl : (Lib.cut s.data.toList [58]).1 = H.data.toList := by rw [← hH]
  have hTl : (Lib.cut s.data.toList [58]).2.1 = T.data.toList := by rw [← hT]
  have hcs := cut_small s.data.toList
  rw [hHl, hTl, Array.length_toList, Array.length_toList, Array.length_toList] at hcs
  have hHs : H.size ≤ 1048576 := Nat.le_trans hcs.1 hs
  have hTn : T.size + 1 ≤ 1048576 := by
    have h3 : T.data.size = T.size := rfl
    have h4 : s.data.size = s.size := rfl
    omega
  have hTs : T.size ≤ 1048576 := by omega
  obtain ⟨o1, h1⟩ : ∃ o1, prN H.data.toList = o1 := ⟨_, rfl⟩
  obtain ⟨o2, h2⟩ : ∃ o2, prL (spl 44 T.data.toList) = o2 := ⟨_, rfl⟩
  have HPE := hide (parI_eq s.data.toList o1 o2 (by rw [hHl]; exact h1) (by rw [hTl]; exact h2))
  have HC1 := hide hH
  have HC2 := hide hT
  have HC3 := hide hb
  have HO1 := hide h1
  have HO2 := hide h2
  have BB := bel1 w (.cells #[.int .i64 0, .slice none 0 0] 25)
  have hb0 := heap_alloc_new w (.cells #[.int .i64 0, .slice none 0 0] 25)
  obtain ⟨W, hW⟩ : ∃ W : World, W = w.alloc (.cells #[.int .i64 0, .slice none 0 0] 25) := ⟨_, rfl⟩
  rw [← hW] at BB hb0
  have hW1 : w.heap.size < W.heap.size := lt_of_block hb0
  have HKB := hide hb0
  clear hH hT hb hHl hTl hcs h1 h2 hb0
  go_enter Tryd.func10, Tryd.ntmps10
  go_wp2_with fail
  rw [← hW]
  clear hW
  refine (cut_was s H T b _ hs (hg.below BB) HC1.out HC2.out HC3.out).mono ?_
  rintro e w1 ⟨rfl, hb1⟩
  have B1 := BB.trans (hb1.mono BB.size)
  go_wp2_with fail
  refine (parseNumber_any H o1 _ hHs (hg.below B1) HO1.out).mono ?_
  rintro e w2 ⟨hE, hb2⟩
  have B2 := bnext B1 hb2
  have hs2 : w.heap.size < w2.heap.size := by have := hb1.size; have := hb2.size; omega
  have r2 := (hb2.block _ (by have := hb1.size; omega)).trans ((hb1.block _ hW1).trans HKB.out)
  have HR2 := hide r2
  clear hb1 hb2 B1 r2 BB HC1 HC2 HC3 HO1 HKB
  have fin0 : ∀ (w3 : World), Below w.heap.size w w3 → Below w.heap.size w ((w3.setCell ⟨w.heap.size, 0, none⟩ (.int .i64 0)).setCell ⟨w.heap.size, 1, none⟩ (.slice none 0 0)) := fun w3 h => (h.setCell (p := ⟨w.heap.size, 0, none⟩) (Nat.le_refl _) _).setCell (p := ⟨w.heap.size, 1, none⟩) (Nat.le_refl _) _
  rcases hE with ⟨n, rfl, rfl⟩ | ⟨rfl, rfl⟩
  · go_wp2_with fail
    refine (parseNumbers_any T o2 _ hTs (hg.below B2) HO2.out).mono ?_
    rintro e w3 ⟨hE3, hb3⟩
    have B3 := bnext B2 hb3
    have r3 := (hb3.block _ hs2).trans HR2.out
    have hs3 : w.heap.size < w3.heap.size := lt_of_block r3
    rcases hE3 with ⟨zs, a3, c3, rfl, rfl, OW, hzl⟩ | ⟨rfl, rfl⟩
    · have bb := bel1 w3 (.cells #[.int .i64 n, .slice a3 zs.length c3] 25)
      have kb := heap_alloc_new w3 (.cells #[.int .i64 n, .slice a3 zs.length c3] 25)
      have iw := OW.ints.below bb
      go_wp2_with fail
      refine (implValidSpace_any _ _ _ _ _ iw (by omega)).mono ?_
      rintro e w4 ⟨rfl, hb4⟩
      have B4 := bnext (bnext B3 bb) hb4
      have r4 := (hb4.block _ (by simp; omega)).trans ((bb.block _ hs3).trans r3)
      have k4 := (hb4.block _ (by simp)).trans kb
      have f0 := unfrozen_of_block r4 0
      have f1 := unfrozen_of_block r4 1
      have g0 := cell_of_block r4 0
      have g1 := cell_of_block r4 1
      have x0 := cell_of_block k4 0
      have x1 := cell_of_block k4 1
      have HRS := hide r4
      have HOW := hide (OW.below (bb.trans (hb4.mono bb.size)))
      clear r3 r4 k4 OW iw hb3 hb4 kb
      cases hvb : vsB n zs with
      | true =>
        have HN : Hid (parS s.data.toList = some (n, zs)) := HPE.out.trans (if_pos hvb)
        clear hvb
        go_wp2
        refine bodyPost_ret (ret_spb rfl _ _ _ _ _ rfl (block_setCell (i := 1) (block_setCell (i := 0) HRS.out _) _)) rfl ?_
        refine ⟨.inl ⟨n, zs, a3, c3, HN.out, rfl, ?_⟩, (B4.setCell (p := ⟨w.heap.size, 0, none⟩) (Nat.le_refl _) _).setCell (p := ⟨w.heap.size, 1, none⟩) (Nat.le_refl _) _⟩
        exact ((HOW.out.setBelow (p := ⟨w.heap.size, 0, none⟩) hs2 _).setBelow (p := ⟨w.heap.size, 1, none⟩) hs2 _).le B2.size
      | false =>
        have HN : Hid (parS s.data.toList = none) := HPE.out.trans (if_neg (by rw [hvb]; decide))
        clear hvb
        go_wp2
        refine bodyPost_ret (ret_spb rfl _ _ _ _ _ rfl (block_setCell (i := 1) (block_setCell (i := 0) HRS.out _) _)) rfl ?_
        exact ⟨.inr ⟨HN.out, rfl⟩, fin0 _ B4⟩
    · have f0 := unfrozen_of_block r3 0
      have f1 := unfrozen_of_block r3 1
      have g0 := cell_of_block r3 0
      have g1 := cell_of_block r3 1
      have HRS := hide r3
      have HN : Hid (parS s.data.toList = none) := HPE.out
      clear r3
      go_wp2
      refine bodyPost_ret (ret_spb rfl _ _ _ _ _ rfl (((bel1 _ _).block _ (by simp; exact hs3)).trans (block_setCell (i := 1) (block_setCell (i := 0) HRS.out _) _))) rfl ?_
      exact ⟨.inr ⟨HN.out, rfl⟩, (fin0 _ B3).alloc (by simp; omega) _⟩
  · have HN : Hid (parS s.data.toList = none) := HPE.out
    go_wp2_with fail
    refine (parseNumbers_any T o2 _ hTs (hg.below B2) HO2.out).mono ?_
    rintro e w3 ⟨hE3, hb3⟩
    have B3 := bnext B2 hb3
    have r3 := (hb3.block _ hs2).trans HR2.out
    have hs3 : w.heap.size < w3.heap.size := lt_of_block r3
    obtain ⟨a3, n3, c3, b3, rfl⟩ : ∃ (a3 : Option Addr) (n3 c3 : Nat) (b3 : Bool), e = .returned (.tuple #[.slice a3 n3 c3, .bool b3]) := by
      rcases hE3 with ⟨zs, a3, c3, _, e3, _⟩ | ⟨_, e3⟩
      · exact ⟨_, _, _, _, e3⟩
      · exact ⟨_, _, _, _, e3⟩
    have f0 := unfrozen_of_block r3 0
    have f1 := unfrozen_of_block r3 1
    have g0 := cell_of_block r3 0
    have g1 := cell_of_block r3 1
    have HRS := hide r3
    clear r3 hE3
    go_wp2
    refine bodyPost_ret (ret_spb rfl _ _ _ _ _ rfl (((bel1 _ _).block _ (by simp; exact hs3)).trans (block_setCell (i := 1) (block_setCell (i := 0) HRS.out _) _))) rfl ?_
    exact ⟨.inr ⟨HN.out, rfl⟩, (fin0 _ B3).alloc (by simp; omega) _⟩
end Go.Proofs.YtcnoipghepjodaaDoor
