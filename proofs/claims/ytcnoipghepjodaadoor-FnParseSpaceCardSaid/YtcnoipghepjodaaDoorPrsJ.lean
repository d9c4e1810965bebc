/- Reading texts, of the program: lists of numbers. -/
import Derived.Test.YtcnoipghepjodaaDoorPrsI
import Derived.Test.YtcnoipghepjodaaDoorApt
namespace Go.Proofs.YtcnoipghepjodaaDoor
open Go.RowKit Go.Joins

/-- what is read of the first pieces -/
def PrTo (ls : List (List UInt8)) (k : Nat) (zs : List Int) : Prop := zs.length = k ∧ (prL (ls.drop k) = none → prL ls = none) ∧ ∀ r, prL (ls.drop k) = some r → prL ls = some (zs ++ r)
theorem prTo_zero (ls : List (List UInt8)) : PrTo ls 0 [] := ⟨rfl, fun h => h, fun _ h => h⟩
theorem prTo_bad {ls : List (List UInt8)} {k : Nat} {zs : List Int} (h : PrTo ls k zs) (hk : k < ls.length) (hp : prN ls[k] = none) : prL ls = none := by
  refine h.2.1 ?_
  rw [List.drop_eq_getElem_cons hk, prL, hp]
theorem prTo_step {ls : List (List UInt8)} {k : Nat} {zs : List Int} {x : Int} (h : PrTo ls k zs) (hk : k < ls.length) (hp : prN ls[k] = some x) : PrTo ls (k + 1) (zs ++ [x]) := by
  have hd : prL (ls.drop k) = match prL (ls.drop (k + 1)) with | none => none | some xs => some (x :: xs) := by
    rw [List.drop_eq_getElem_cons hk, prL, hp]
    rfl
  refine ⟨by rw [List.length_append, h.1]; rfl, fun e => ?_, fun r e => ?_⟩
  · rw [e] at hd
    exact h.2.1 hd
  · rw [e] at hd
    rw [h.2.2 _ hd, List.append_assoc]
    rfl
theorem prTo_end {ls : List (List UInt8)} {zs : List Int} (h : PrTo ls ls.length zs) : prL ls = some zs := by
  have := h.2.2 [] (by rw [List.drop_length]; rfl)
  rw [List.append_nil] at this
  exact this
/-- what parseNumbers answers -/
def PlE (m : Nat) (o : Option (List Int)) (w w' : World) (e : Ending) : Prop := (∃ zs a cap, o = some zs ∧ e = .returned (.tuple #[.slice a zs.length cap, .bool true]) ∧ Owns w' w.heap.size (.slice a zs.length cap) zs ∧ zs.length ≤ m + 1) ∨ (o = none ∧ e = .returned (.tuple #[.slice none 0 0, .bool false]))
theorem split_size (s : ByteArray) : ∀ p ∈ (Lib.splitB ⟨#[44]⟩ 0 (Lib.countB s ⟨#[44]⟩) s), p.size ≤ s.size := fun p hp => by
  have h1 := split_spl 44 s.size s (Nat.le_refl _)
  have hm : p.data.toList ∈ spl 44 s.data.toList := by rw [← h1]; exact List.mem_map_of_mem hp
  have key : ∀ (l : List UInt8), ∀ q ∈ spl 44 l, q.length ≤ l.length := by
    intro l
    induction l with
    | nil => intro q hq; simp [spl] at hq; subst hq; exact Nat.le_refl _
    | cons b r ih =>
      intro q hq
      by_cases hb : b = 44
      · subst hb
        rw [spl_at] at hq
        rcases List.mem_cons.1 hq with rfl | hq
        · simp
        · have := ih q hq
          rw [List.length_cons]; omega
      · obtain ⟨y, ys, e1, e2⟩ := spl_cons hb r
        have hy := ih y (by rw [e1]; simp)
        rw [e2] at hq
        rcases List.mem_cons.1 hq with rfl | hq
        · rw [List.length_cons, List.length_cons]; omega
        · have := ih q (by rw [e1]; simp [hq])
          rw [List.length_cons]; omega
  have := key _ _ hm
  rw [Array.length_toList, Array.length_toList] at this
  exact this
theorem parseNumber_was (s : ByteArray) (o : Option Int) (w : World) (hs : s.size ≤ 1048576) (hg : GV w) (ho : prN s.data.toList = o) :
    Calls Tryd.prog 28 #[.string s] w fun e w' => PnE o e ∧ Below w.heap.size w w' := parseNumber_any s o w hs hg ho
set_option maxHeartbeats 1000000 in
set_option maxRecDepth 100000 in
theorem parseNumbers_any (s : ByteArray) (o : Option (List Int)) (w : World) (hs : s.size ≤ 1048576) (hg : GV w) (ho : prL (spl 44 s.data.toList) = o) :
    Calls Tryd.prog 29 #[.string s] w fun e w' => PlE s.size o w w' e ∧ Below w.heap.size w w' := by
  obtain ⟨i0, hi0, hz0, hz1, hz2⟩ := info_parts info_int
  obtain ⟨m, hm⟩ := hg.ml
  obtain ⟨ps, hps⟩ : ∃ ps, ps = Lib.splitB ⟨#[44]⟩ 0 (Lib.countB s ⟨#[44]⟩) s := ⟨_, rfl⟩
  have hsp := split_spl 44 s.size s (Nat.le_refl _)
  have hsz := split_size s
  have hlen : ps.length = Lib.countB s ⟨#[44]⟩ + 1 := by rw [hps]; exact Lib.splitB_all ⟨#[44]⟩ (Nat.le_refl _) 0 _ s rfl
  have hcl : Lib.countB s ⟨#[44]⟩ ≤ s.size := Lib.countB_le ⟨#[44]⟩ (Nat.le_refl _) s.size s (Nat.le_refl _)
  have HSP := hide (Tryd.strings_Split s ⟨#[44]⟩ m w (by omega) hm (Nat.le_refl _))
  rw [← hps, ← hlen] at HSP
  rw [← hps] at hsp hsz
  have hpl : ps.length ≤ 1048577 := by omega
  have hpl2 : ps.length ≤ s.size + 1 := by omega
  have HSZ := hide hsz
  have HMP := hide hsp
  subst ho
  rw [← hsp]
  have BB := bel1 w (.cells (ps.map Value.string).toArray 9)
  have kb := heap_alloc_new w (.cells (ps.map Value.string).toArray 9)
  have hcell : ∀ k (hk : k < ps.length), (w.alloc (.cells (ps.map Value.string).toArray 9)).cell? ⟨w.heap.size, k, none⟩ = some (.string ps[k]) := fun k hk => by
    rw [cell_of_block kb k]
    simp [hk]
  obtain ⟨W, hW⟩ : ∃ W : World, W = w.alloc (.cells (ps.map Value.string).toArray 9) := ⟨_, rfl⟩
  rw [← hW] at BB kb hcell
  have hW1 : w.heap.size < W.heap.size := lt_of_block kb
  have HKB := hide kb
  clear hps hsp hsz hlen hcl kb hm
  go_enter Tryd.func29, Tryd.ntmps29
  go_wp2_with fail
  refine HSP.out.mono ?_
  rintro e w1 ⟨rfl, rfl⟩
  rw [← hW]
  clear hW
  go_wp2_with fail
  go_loopw [4, 12] (fun v iv wr => ∃ (k : Nat) (zs : List Int), k ≤ ps.length ∧ iv = .int .i64 k ∧ wr.ownsRow W.heap.size 3 1 v k (zs.map (Value.int .i64)) ∧ Hid (PrTo (ps.map (·.data.toList)) k zs) ∧ Below W.heap.size W wr) (fun _ i _ => ps.length - (intOf i).toNat)
  case atStart => exact ⟨0, [], Nat.zero_le _, rfl, World.ownsRow_nil _ _ _ _, prTo_zero _, Below.refl _ _⟩
  case round =>
    obtain ⟨k, zs, hk, rfl, own, HP, BR⟩ := hrel
    have hszr := BR.size
    have hzl := HP.out.1
    have HZL := hide hzl
    clear hzl
    by_cases hlt : k < ps.length
    · have hck := (BR.cell (p := ⟨w.heap.size, k, none⟩) hW1).trans (hcell k hlt)
      have hsm : (ps[k]).size ≤ 1048576 := Nat.le_trans (HSZ.out _ (List.getElem_mem hlt)) hs
      have hml : k < (ps.map (·.data.toList)).length := by rw [List.length_map]; exact hlt
      have HBAD := hide (prTo_bad HP.out hml)
      have HSTEP : Hid (∀ x, prN (ps.map (·.data.toList))[k] = some x → PrTo (ps.map (·.data.toList)) (k + 1) (zs ++ [x])) := fun x => prTo_step HP.out hml
      rw [List.getElem_map] at HBAD HSTEP
      have hgr := hg.below (BB.trans (BR.mono BB.size))
      obtain ⟨p, hp⟩ : ∃ p, p = ps[k] := ⟨_, rfl⟩
      rw [← hp] at hck HBAD HSTEP hsm
      clear hp
      cases hpn : prN p.data.toList with
      | none =>
        have HN := hide (HBAD.out hpn)
        have HPN := hide hpn
        clear hpn
        go_wp2_with fail
        refine (parseNumber_any p _ _ hsm hgr HPN.out).mono ?_
        rintro e w3 ⟨hE, hb3⟩
        rcases hE with ⟨v, hv, rfl⟩ | ⟨_, rfl⟩
        · cases hv
        go_wp2
        go_ret2
        exact ⟨.inr ⟨HN.out, rfl⟩, (BB.trans (BR.mono BB.size)).trans (hb3.mono (by omega))⟩
      | some x =>
        have HST := hide (HSTEP.out x hpn)
        have HPN := hide hpn
        clear hpn
        go_wp2_with fail
        refine (parseNumber_any p _ _ hsm hgr HPN.out).mono ?_
        rintro e w3 ⟨hE, hb3⟩
        rcases hE with ⟨v, hv, rfl⟩ | ⟨hv, _⟩
        · cases hv
          have own3 := World.ownsRow.kept own (row := none) ⟨hb3.os, hb3.tape, hb3.output, hb3.size, fun k hk _ => hb3.block k hk⟩ (by
            rcases hob : u4.ownBlock with _ | g
            · exact .inl rfl
            · exact .inr (by intro e; cases e))
          have BR3 := BR.trans (hb3.mono hszr)
          clear own hck
          go_wp2_with ((at_builtin; refine wpList_append_apart _ rfl _ _ 23 rfl W.heap.size 3 i0 (.int .i64 0) 1 8 Tryd.underlying23 hi0 hz0 hz1 hz2 rfl (by decide) _ k _ rfl (own3.alloc _) ⟨w3.heap.size, 0, none⟩ 1 1 [.int .i64 x] rfl rfl (cell_one_new _ _ _) (by intro u hu; simp at hu; subst hu; rfl) (by decide) (by unfold maxLen; omega) (by omega) (by have := BR3.size; simp; omega) ?_))
          intro v' w4 hown4 hgrow _
          have hbel := hide ((BR3.alloc BR3.size (.cells #[.int .i64 x] 3)).grown hgrow (by have := BR3.size; simp; omega) (fun j hj => (World.ownsRow.lt own3 j hj).1))
          have HO : Hid (w4.ownsRow W.heap.size 3 1 v' (k + 1) ((zs ++ [x]).map (Value.int .i64))) := by
            unfold Hid
            rw [List.map_append]
            exact hown4
          clear hown4 hgrow own3 BR3
          go_wp2
          go_roundw
          case rel => exact ⟨k + 1, zs ++ [x], by omega, by go_num, HO.out, HST.out, hbel.out⟩
          case measure => simp only [intOf]; omega
        · cases hv
    · obtain rfl : k = ps.length := by omega
      have HN : Hid (prL (ps.map (·.data.toList)) = some zs) := prTo_end (by rw [List.length_map]; exact HP.out)
      have HO : Hid (Owns wr W.heap.size u4 zs) := by unfold Hid Owns; rw [HZL.out]; exact own
      clear own
      go_wp2
      go_ret2
      obtain ⟨a5, c5, hv5, _, _⟩ := HO.out.form
      subst hv5
      exact ⟨.inl ⟨zs, a5, c5, HN.out, rfl, HO.out.le BB.size, by rw [HZL.out]; exact hpl2⟩, BB.trans (BR.mono BB.size)⟩
end Go.Proofs.YtcnoipghepjodaaDoor
