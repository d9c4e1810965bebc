/- Texts of this seat one behind the other: PrsI, PrsJ, SeqI, Ord. Conditions: none. -/
import Derived.Test.YtgebplpbnaeckaaGreatDoorShelfb
import Derived.Test.YtgebplpbnaeckaaGreatDoorMg16
import Derived.Test.YtgebplpbnaeckaaGreatDoorMg01
import Derived.Test.YtgebplpbnaeckaaGreatDoorMg11
import Derived.Test.YtgebplpbnaeckaaGreatDoorMg03
import Derived.Test.YtgebplpbnaeckaaGreatDoorShelf
import Derived.Test.YtgebplpbnaeckaaGreatDoorMg02
import Derived.Test.YtgebplpbnaeckaaGreatDoorMg00
import Derived.Lib.SmallJoins
import Derived.Lib.AtoiAllCases
import Derived.RangeFuncCalls
import Derived.Shelf.Abstract
import Derived.Shelf.RegionOpen
import Derived.WalkKit
import Derived.OwnWalkIn
import Derived.TacticsInMore
import Derived.LoopNIn
import Derived.LoopIn
import Derived.Maps.AppendAt

/- PrsI: Reading texts, of the program: numbers. -/
namespace Go.Proofs.YtgebplpbnaeckaaGreatDoor
open Go.RowKit Go.Joins

theorem gPow : Tryz.prog.globalNamed "internal/strconv.uint64pow10" = some 5 := by kernel_rfl
theorem tab_below {w w' : World} (h : Lib.TabIs Tryz.prog w "internal/strconv.uint64pow10" .u64 Lib.pow10Tab) (hb : Below w.heap.size w w') : Lib.TabIs Tryz.prog w' "internal/strconv.uint64pow10" .u64 Lib.pow10Tab := by
  unfold Lib.TabIs World.var? at h ⊢
  rw [gPow] at h ⊢
  simp only [Option.bind_some] at h ⊢
  have hlt : 5 < w.heap.size := by
    rcases Nat.lt_or_ge 5 w.heap.size with h' | h'
    · exact h'
    · rw [Array.getElem?_eq_none h'] at h; cases h
  rw [hb.block 5 hlt]
  exact h
/-- what the program's tables hold -/
structure GV (w : World) : Prop where
  ml : ∃ m : Int, w.cell? ⟨2, 0, none⟩ = some (.int .i64 m)
  syn : ∃ ev : Value, w.cell? ⟨8, 0, none⟩ = some ev ∧ (ev = .nilIface ∨ ∃ te pe, ev = .iface te pe)
  rng : ∃ ev : Value, w.cell? ⟨9, 0, none⟩ = some ev ∧ (ev = .nilIface ∨ ∃ te pe, ev = .iface te pe)
  tab : Lib.TabIs Tryz.prog w "internal/strconv.uint64pow10" .u64 Lib.pow10Tab
theorem GV.below {w w' : World} (h : GV w) (hb : Below w.heap.size w w') : GV w' := by
  obtain ⟨⟨m, h1⟩, ⟨e2, h2, h3⟩, ⟨e4, h4, h5⟩, h6⟩ := h
  exact ⟨⟨m, (hb.cell (p := ⟨2, 0, none⟩) (World.block_lt_of_cell? w ⟨2, 0, none⟩ h1)).trans h1⟩, ⟨e2, (hb.cell (p := ⟨8, 0, none⟩) (World.block_lt_of_cell? w ⟨8, 0, none⟩ h2)).trans h2, h3⟩, ⟨e4, (hb.cell (p := ⟨9, 0, none⟩) (World.block_lt_of_cell? w ⟨9, 0, none⟩ h4)).trans h4, h5⟩, tab_below h6 hb⟩
theorem GV.drew {w : World} (h : GV w) : GV w.drew := h.below (bdrew' (Below.refl _ _))
/-- what parseNumber answers -/
def PnE (o : Option Int) (e : Ending) : Prop := (∃ v : Int, o = some v ∧ e = .returned (.tuple #[.int .i64 v, .bool true])) ∨ (o = none ∧ e = .returned (.tuple #[.int .i64 0, .bool false]))
theorem grow_below {w : World} {k : Nat} {os : Array Obj} : Below w.heap.size w (Go.Sort.grow (w.drewN k) os) := by
  refine ⟨rfl, rfl, rfl, ?_, fun j hj => ?_⟩
  · rw [Go.Sort.size_grow]; exact Nat.le_add_right _ _
  · show (w.heap ++ os)[j]? = _
    rw [Array.getElem?_append, if_pos hj]
theorem atoi_ok_was (s : ByteArray) (v : Int) (w : World) (hs : s.size ≤ 1048576) (h : Lib.atoiAll s.data.toList = .ok v) :
    Calls Tryz.prog 158 #[.string s] w fun e w' => e = .returned (.tuple #[.int .i64 v, .nilIface]) ∧ Below w.heap.size w w' := by
  refine (Tryz.strconv_Atoi_ok s (by omega) v h w).mono ?_
  rintro e w' ⟨rfl, rfl | ⟨t, rfl⟩⟩
  · exact ⟨rfl, Below.refl _ _⟩
  · exact ⟨rfl, below_bytesWorld _ _ _ _ (Nat.le_refl _)⟩
theorem atoi_bad_was (s : ByteArray) (w : World) (hs : s.size ≤ 1048576) (hg : GV w) (h : ∀ v, Lib.atoiAll s.data.toList ≠ .ok v) :
    Calls Tryz.prog 158 #[.string s] w fun e w' => (∃ (x : Int) (t : TypeId) (p : Value), e = .returned (.tuple #[.int .i64 x, .iface t p])) ∧ Below w.heap.size w w' := by
  cases hc : Lib.atoiAll s.data.toList with
  | ok v => exact absurd hc (h v)
  | «syntax» =>
    obtain ⟨ev, h1, h2⟩ := hg.syn
    refine (Tryz.strconv_Atoi_syntax s (by omega) hc ev w h1 h2).mono ?_
    rintro e w' ⟨N, rfl, _, _, hb⟩
    exact ⟨⟨_, _, _, rfl⟩, hb⟩
  | range =>
    obtain ⟨ev, h1, h2⟩ := hg.rng
    refine (Tryz.strconv_Atoi_range s (by omega) hc ev w h1 h2).mono ?_
    rintro e w' ⟨N, rfl, _, _, hb⟩
    exact ⟨⟨_, _, _, rfl⟩, hb⟩
theorem itoa_all (n : Int) (S : ByteArray) (w : World) (h : -9223372036854775808 ≤ n ∧ n ≤ 9223372036854775807) (hg : GV w) (hS : ⟨(Lib.itoa n).toArray⟩ = S) :
    Calls Tryz.prog 73 #[.int .i64 n] w fun e w' => e = .returned (.string S) ∧ Below w.heap.size w w' := by
  subst hS
  refine (Tryz.strconv_Itoa n h.1 h.2 w hg.tab).mono ?_
  rintro e w' ⟨rfl, k, os, rfl⟩
  exact ⟨rfl, grow_below⟩
set_option maxHeartbeats 1000000 in
theorem parseNumber_any (s : ByteArray) (o : Option Int) (w : World) (hs : s.size ≤ 1048576) (hg : GV w) (ho : prN s.data.toList = o) :
    Calls Tryz.prog 131 #[.string s] w fun e w' => PnE o e ∧ Below w.heap.size w w' := by
  subst ho
  by_cases hc : ∃ v, Lib.atoiAll s.data.toList = .ok v
  · obtain ⟨v, hv⟩ := hc
    have hb := Lib.atoiAll_bounds hv
    have HV := hide hv
    obtain ⟨S, hS⟩ : ∃ S : ByteArray, ⟨(Lib.itoa v).toArray⟩ = S := ⟨_, rfl⟩
    have HS := hide hS
    by_cases hq : S.toList = s.toList
    · have hi : Lib.itoa v = s.data.toList := by
        rw [ByteArray.toList_eq, ByteArray.toList_eq, ← hS] at hq
        simpa using hq
      have HO : Hid (prN s.data.toList = some v) := by unfold Hid prN; rw [hv]; simp only; rw [if_pos hi]
      have hne : (!(S.toList == s.toList)) = false := by rw [hq]; simp
      have hne2 : (S.toList == s.toList) = true := by rw [hq]; simp
      clear hi hS hv
      go_enter Tryz.func131, Tryz.ntmps131
      go_wp2_with fail
      refine (atoi_ok_was s v _ hs HV.out).mono ?_
      rintro e w1 ⟨rfl, hb1⟩
      go_wp2_with (go_at_call 73; refine (itoa_all v S _ hb (hg.below hb1) HS.out).mono ?_; rintro e w2 ⟨rfl, hb2⟩)
      go_ret2
      exact ⟨.inl ⟨v, HO.out, rfl⟩, bnext hb1 hb2⟩
    · have hi : ¬ Lib.itoa v = s.data.toList := fun e => hq (by
        rw [ByteArray.toList_eq, ByteArray.toList_eq, ← hS, ← e])
      have HO : Hid (prN s.data.toList = none) := by unfold Hid prN; rw [hv]; simp only; rw [if_neg hi]
      have hne2 : (S.toList == s.toList) = false := by rw [beq_eq_false_iff_ne]; exact hq
      have hne : (!(S.toList == s.toList)) = true := by rw [hne2]; rfl
      clear hi hS hv hq
      go_enter Tryz.func131, Tryz.ntmps131
      go_wp2_with fail
      refine (atoi_ok_was s v _ hs HV.out).mono ?_
      rintro e w1 ⟨rfl, hb1⟩
      go_wp2_with (go_at_call 73; refine (itoa_all v S _ hb (hg.below hb1) HS.out).mono ?_; rintro e w2 ⟨rfl, hb2⟩)
      go_ret2
      exact ⟨.inr ⟨HO.out, rfl⟩, bnext hb1 hb2⟩
  · have hc' : ∀ v, Lib.atoiAll s.data.toList ≠ .ok v := fun v e => hc ⟨v, e⟩
    have HO : Hid (prN s.data.toList = none) := by
      unfold Hid prN
      split
      · rename_i x hx; exact absurd hx (hc' x)
      · rfl
    have HC := hide hc'
    clear hc hc'
    go_enter Tryz.func131, Tryz.ntmps131
    go_wp2_with fail
    refine (atoi_bad_was s _ hs hg HC.out).mono ?_
    rintro e w1 ⟨⟨x, t, p, rfl⟩, hb1⟩
    go_wp2
    go_ret2
    exact ⟨.inr ⟨HO.out, rfl⟩, hb1⟩
end Go.Proofs.YtgebplpbnaeckaaGreatDoor

/- PrsJ: Reading texts, of the program: lists of numbers. -/
namespace Go.Proofs.YtgebplpbnaeckaaGreatDoor
open Go.RowKit Go.Joins

/-- what is read of the first pieces -/
def PrTo (ls : List (List UInt8)) (k : Nat) (zs : List Int) : Prop := zs.length = k ∧ (prL (ls.drop k) = none → prL ls = none) ∧ ∀ r, prL (ls.drop k) = some r → prL ls = some (zs ++ r)
theorem prTo_zero (ls : List (List UInt8)) : PrTo ls 0 [] := ⟨rfl, fun h => h, fun _ h => h⟩
theorem prTo_bad {ls : List (List UInt8)} {k : Nat} {zs : List Int} (h : PrTo ls k zs) (hk : k < ls.length) (hp : prN ls[k] = none) : prL ls = none := by
  refine h.2.1 ?_
  rw [List.drop_eq_getElem_cons hk, prL, hp]
theorem prTo_step {ls : List (List UInt8)} {k : Nat} {zs : List Int} {x : Int} (h : PrTo ls k zs) (hk : k < ls.length) (hp : prN ls[k] = some x) : PrTo ls (k + 1) (zs ++ [x]) := by
  have hd : prL (ls.drop k) = match prL (ls.drop (k + 1)) with | none => none | some xs => some (x :: xs) := by
    rw [List.drop_eq_getElem_cons hk, prL, hp]
    rfl
  refine ⟨by rw [List.length_append, h.1]; rfl, fun e => ?_, fun r e => ?_⟩
  · rw [e] at hd
    exact h.2.1 hd
  · rw [e] at hd
    rw [h.2.2 _ hd, List.append_assoc]
    rfl
theorem prTo_end {ls : List (List UInt8)} {zs : List Int} (h : PrTo ls ls.length zs) : prL ls = some zs := by
  have := h.2.2 [] (by rw [List.drop_length]; rfl)
  rw [List.append_nil] at this
  exact this
/-- what parseNumbers answers -/
def PlE (m : Nat) (o : Option (List Int)) (w w' : World) (e : Ending) : Prop := (∃ zs a cap, o = some zs ∧ e = .returned (.tuple #[.slice a zs.length cap, .bool true]) ∧ Owns w' w.heap.size (.slice a zs.length cap) zs ∧ zs.length ≤ m + 1) ∨ (o = none ∧ e = .returned (.tuple #[.slice none 0 0, .bool false]))
theorem split_size (s : ByteArray) : ∀ p ∈ (Lib.splitB ⟨#[44]⟩ 0 (Lib.countB s ⟨#[44]⟩) s), p.size ≤ s.size := fun p hp => by
  have h1 := split_spl 44 s.size s (Nat.le_refl _)
  have hm : p.data.toList ∈ spl 44 s.data.toList := by rw [← h1]; exact List.mem_map_of_mem hp
  have key : ∀ (l : List UInt8), ∀ q ∈ spl 44 l, q.length ≤ l.length := by
    intro l
    induction l with
    | nil => intro q hq; simp [spl] at hq; subst hq; exact Nat.le_refl _
    | cons b r ih =>
      intro q hq
      by_cases hb : b = 44
      · subst hb
        rw [spl_at] at hq
        rcases List.mem_cons.1 hq with rfl | hq
        · simp
        · have := ih q hq
          rw [List.length_cons]; omega
      · obtain ⟨y, ys, e1, e2⟩ := spl_cons hb r
        have hy := ih y (by rw [e1]; simp)
        rw [e2] at hq
        rcases List.mem_cons.1 hq with rfl | hq
        · rw [List.length_cons, List.length_cons]; omega
        · have := ih q (by rw [e1]; simp [hq])
          rw [List.length_cons]; omega
  have := key _ _ hm
  rw [Array.length_toList, Array.length_toList] at this
  exact this
theorem parseNumber_was (s : ByteArray) (o : Option Int) (w : World) (hs : s.size ≤ 1048576) (hg : GV w) (ho : prN s.data.toList = o) :
    Calls Tryz.prog 131 #[.string s] w fun e w' => PnE o e ∧ Below w.heap.size w w' := parseNumber_any s o w hs hg ho
set_option maxHeartbeats 1000000 in
set_option maxRecDepth 100000 in
theorem parseNumbers_any (s : ByteArray) (o : Option (List Int)) (w : World) (hs : s.size ≤ 1048576) (hg : GV w) (ho : prL (spl 44 s.data.toList) = o) :
    Calls Tryz.prog 114 #[.string s] w fun e w' => PlE s.size o w w' e ∧ Below w.heap.size w w' := by
  obtain ⟨i0, hi0, hz0, hz1, hz2⟩ := info_parts info_int
  obtain ⟨m, hm⟩ := hg.ml
  obtain ⟨ps, hps⟩ : ∃ ps, ps = Lib.splitB ⟨#[44]⟩ 0 (Lib.countB s ⟨#[44]⟩) s := ⟨_, rfl⟩
  have hsp := split_spl 44 s.size s (Nat.le_refl _)
  have hsz := split_size s
  have hlen : ps.length = Lib.countB s ⟨#[44]⟩ + 1 := by rw [hps]; exact Lib.splitB_all ⟨#[44]⟩ (Nat.le_refl _) 0 _ s rfl
  have hcl : Lib.countB s ⟨#[44]⟩ ≤ s.size := Lib.countB_le ⟨#[44]⟩ (Nat.le_refl _) s.size s (Nat.le_refl _)
  have HSP := hide (Tryz.strings_Split s ⟨#[44]⟩ m w (by omega) hm (Nat.le_refl _))
  rw [← hps, ← hlen] at HSP
  rw [← hps] at hsp hsz
  have hpl : ps.length ≤ 1048577 := by omega
  have hpl2 : ps.length ≤ s.size + 1 := by omega
  have HSZ := hide hsz
  have HMP := hide hsp
  subst ho
  rw [← hsp]
  have BB := bel1 w (.cells (ps.map Value.string).toArray 9)
  have kb := heap_alloc_new w (.cells (ps.map Value.string).toArray 9)
  have hcell : ∀ k (hk : k < ps.length), (w.alloc (.cells (ps.map Value.string).toArray 9)).cell? ⟨w.heap.size, k, none⟩ = some (.string ps[k]) := fun k hk => by
    rw [cell_of_block kb k]
    simp [hk]
  obtain ⟨W, hW⟩ : ∃ W : World, W = w.alloc (.cells (ps.map Value.string).toArray 9) := ⟨_, rfl⟩
  rw [← hW] at BB kb hcell
  have hW1 : w.heap.size < W.heap.size := lt_of_block kb
  have HKB := hide kb
  clear hps hsp hsz hlen hcl kb hm
  go_enter Tryz.func114, Tryz.ntmps114
  go_wp2_with fail
  refine HSP.out.mono ?_
  rintro e w1 ⟨rfl, rfl⟩
  rw [← hW]
  clear hW
  go_wp2_with fail
  go_loopw [4, 12] (fun v iv wr => ∃ (k : Nat) (zs : List Int), k ≤ ps.length ∧ iv = .int .i64 k ∧ wr.ownsRow W.heap.size 3 1 v k (zs.map (Value.int .i64)) ∧ Hid (PrTo (ps.map (·.data.toList)) k zs) ∧ Below W.heap.size W wr) (fun _ i _ => ps.length - (intOf i).toNat)
  case atStart => exact ⟨0, [], Nat.zero_le _, rfl, World.ownsRow_nil _ _ _ _, prTo_zero _, Below.refl _ _⟩
  case round =>
    obtain ⟨k, zs, hk, rfl, own, HP, BR⟩ := hrel
    have hszr := BR.size
    have hzl := HP.out.1
    have HZL := hide hzl
    clear hzl
    by_cases hlt : k < ps.length
    · have hck := (BR.cell (p := ⟨w.heap.size, k, none⟩) hW1).trans (hcell k hlt)
      have hsm : (ps[k]).size ≤ 1048576 := Nat.le_trans (HSZ.out _ (List.getElem_mem hlt)) hs
      have hml : k < (ps.map (·.data.toList)).length := by rw [List.length_map]; exact hlt
      have HBAD := hide (prTo_bad HP.out hml)
      have HSTEP : Hid (∀ x, prN (ps.map (·.data.toList))[k] = some x → PrTo (ps.map (·.data.toList)) (k + 1) (zs ++ [x])) := fun x => prTo_step HP.out hml
      rw [List.getElem_map] at HBAD HSTEP
      have hgr := hg.below (BB.trans (BR.mono BB.size))
      obtain ⟨p, hp⟩ : ∃ p, p = ps[k] := ⟨_, rfl⟩
      rw [← hp] at hck HBAD HSTEP hsm
      clear hp
      cases hpn : prN p.data.toList with
      | none =>
        have HN := hide (HBAD.out hpn)
        have HPN := hide hpn
        clear hpn
        go_wp2_with fail
        refine (parseNumber_any p _ _ hsm hgr HPN.out).mono ?_
        rintro e w3 ⟨hE, hb3⟩
        rcases hE with ⟨v, hv, rfl⟩ | ⟨_, rfl⟩
        · cases hv
        go_wp2
        go_ret2
        exact ⟨.inr ⟨HN.out, rfl⟩, (BB.trans (BR.mono BB.size)).trans (hb3.mono (by omega))⟩
      | some x =>
        have HST := hide (HSTEP.out x hpn)
        have HPN := hide hpn
        clear hpn
        go_wp2_with fail
        refine (parseNumber_any p _ _ hsm hgr HPN.out).mono ?_
        rintro e w3 ⟨hE, hb3⟩
        rcases hE with ⟨v, hv, rfl⟩ | ⟨hv, _⟩
        · cases hv
          have own3 := World.ownsRow.kept own (row := none) ⟨hb3.os, hb3.tape, hb3.output, hb3.size, fun k hk _ => hb3.block k hk⟩ (by
            rcases hob : u4.ownBlock with _ | g
            · exact .inl rfl
            · exact .inr (by intro e; cases e))
          have BR3 := BR.trans (hb3.mono hszr)
          clear own hck
          go_wp2_with ((at_builtin; refine wpList_append_apart _ rfl _ _ 35 rfl W.heap.size 3 i0 (.int .i64 0) 1 8 Tryz.underlying35 hi0 hz0 hz1 hz2 rfl (by decide) _ k _ rfl (own3.alloc _) ⟨w3.heap.size, 0, none⟩ 1 1 [.int .i64 x] rfl rfl (cell_one_new _ _ _) (by intro u hu; simp at hu; subst hu; rfl) (by decide) (by unfold maxLen; omega) (by omega) (by have := BR3.size; simp; omega) ?_))
          intro v' w4 hown4 hgrow _
          have hbel := hide ((BR3.alloc BR3.size (.cells #[.int .i64 x] 3)).grown hgrow (by have := BR3.size; simp; omega) (fun j hj => (World.ownsRow.lt own3 j hj).1))
          have HO : Hid (w4.ownsRow W.heap.size 3 1 v' (k + 1) ((zs ++ [x]).map (Value.int .i64))) := by
            unfold Hid
            rw [List.map_append]
            exact hown4
          clear hown4 hgrow own3 BR3
          go_wp2
          go_roundw
          case rel => exact ⟨k + 1, zs ++ [x], by omega, by go_num, HO.out, HST.out, hbel.out⟩
          case measure => simp only [intOf]; omega
        · cases hv
    · obtain rfl : k = ps.length := by omega
      have HN : Hid (prL (ps.map (·.data.toList)) = some zs) := prTo_end (by rw [List.length_map]; exact HP.out)
      have HO : Hid (Owns wr W.heap.size u4 zs) := by unfold Hid Owns; rw [HZL.out]; exact own
      clear own
      go_wp2
      go_ret2
      obtain ⟨a5, c5, hv5, _, _⟩ := HO.out.form
      subst hv5
      exact ⟨.inl ⟨zs, a5, c5, HN.out, rfl, HO.out.le BB.size, by rw [HZL.out]; exact hpl2⟩, BB.trans (BR.mono BB.size)⟩
end Go.Proofs.YtgebplpbnaeckaaGreatDoor

/- SeqI: slices.Values and slices.Collect at numbers, at the program. -/
namespace Go.Proofs.YtgebplpbnaeckaaGreatDoor
open Go.RowKit Go.Joins

attribute [local go_sem] Oper.semAt_some

theorem values_any (a : Option Addr) (len cap : Nat) (w : World) : Calls Tryz.prog 166 #[.slice a len cap] w fun e w' =>
    e = .returned (.func (.func 180) #[] #[.pointer (some ⟨w.heap.size, 0, none⟩)]) ∧ w' = w.alloc (.cells #[.slice a len cap] 35) := by
  go_enter Tryz.func166, Tryz.ntmps166
  go_wp2
  go_ret
  exact ⟨rfl, rfl⟩

theorem take_next {zs : List Int} {k : Nat} (h : k < zs.length) : zs.take k ++ [zs[k]] = zs.take (k + 1) := by
  rw [List.take_add_one, List.getElem?_eq_getElem h]; rfl

set_option maxRecDepth 100000 in
set_option maxHeartbeats 2000000 in
theorem values_iter (N B : Nat) (a : Option Addr) (cap : Nat) (zs : List Int) (w0 : World) (hB : B < w0.heap.size) (hc : w0.cell? ⟨B, 0, none⟩ = some (.slice a zs.length cap)) (hi : Ints w0 a zs) (hn : zs.length ≤ 1048576) :
    IterC Fence.wide N Tryz.prog 180 #[] #[.pointer (some ⟨B, 0, none⟩)] zs w0 := by
  intro q J Jx W hJb _ hY h0
  show CallsIn Fence.wide N Tryz.prog 180 #[.func (.yield q) #[] #[], .pointer (some ⟨B, 0, none⟩)] W _
  have hcW := ((hJb _ _ h0).cell (p := ⟨B, 0, none⟩) hB).trans hc
  refine callsIn_of_wp Tryz.func180 rfl trivial ?_ rfl
  simp only [Tryz.ntmps180, List.size_toArray, List.length_cons, List.length_nil, Nat.reduceAdd, Nat.reduceSub, Array.replicate_succ, Array.replicate_zero, List.push_toArray, List.append_toArray, List.nil_append, List.cons_append]
  gi_wp2
  gi_loopw [7] (fun i wr => ∃ k : Nat, k ≤ zs.length ∧ i = .int .i64 k ∧ J (zs.take k) wr) (fun i _ => zs.length - (intOf i).toNat)
  case atStart => exact ⟨0, Nat.zero_le _, rfl, h0⟩
  case round =>
    obtain ⟨k, hk, rfl, hj⟩ := hrel
    by_cases hlt : k < zs.length
    · obtain ⟨b, off, rfl, hbl, hcc⟩ := (hi.below (hJb _ _ hj)) (by omega)
      have hck := hcc k hlt
      rw [getD_lt hlt] at hck
      obtain ⟨fn, tmps, assign, body, hy, hR⟩ := hY (zs.take k) zs[k] wr (by rw [take_next hlt]; exact List.take_prefix _ _) hj
      have HT := take_next hlt
      clear hcc hi hY hJb hcW hc
      gi_wp2
      refine ⟨fun h => (by cases h), hR.mono ?_⟩
      rintro e W3 (⟨rfl, hj3⟩ | ⟨rfl, hx3⟩)
      · gi_wp2
        go_roundw
        case rel => exact ⟨k + 1, by omega, by go_num, by rw [← HT]; exact hj3⟩
        case measure => simp [intOf]; omega
      · gi_wp2
        refine bodyPost_ret (results_none rfl _ _ _) rfl ?_
        exact ⟨⟨_, rfl⟩, .inr hx3⟩
    · obtain rfl : k = zs.length := by omega
      rw [List.take_length] at hj
      gi_wp2
      go_end0
      exact ⟨⟨_, rfl⟩, .inl hj⟩

set_option maxRecDepth 100000 in
set_option maxHeartbeats 4000000 in
theorem appendSeq_any (B : Nat) (a : Option Addr) (cap : Nat) (zs : List Int) (w : World) (hB : B < w.heap.size) (hc : w.cell? ⟨B, 0, none⟩ = some (.slice a zs.length cap)) (hi : Ints w a zs) (hn : zs.length ≤ 1048576) :
    Calls Tryz.prog 190 #[.slice none 0 0, .func (.func 180) #[] #[.pointer (some ⟨B, 0, none⟩)]] w (Gives zs w) := by
  obtain ⟨i0, hi0, hz0, hz1, hz2⟩ := info_parts info_int
  have hIt := hide (values_iter 5 B a cap zs w hB hc hi hn)
  have l0 := Boxed.new w 35 (.slice none 0 0)
  have hB0 := bel1 w (.cells #[.slice none 0 0] 35)
  have hsz : (w.alloc (.cells #[.slice none 0 0] 35)).heap.size = w.heap.size + 1 := by simp
  obtain ⟨W0, hW0⟩ : ∃ W0 : World, w.alloc (.cells #[.slice none 0 0] 35) = W0 := ⟨_, rfl⟩
  rw [hW0] at l0 hB0 hsz
  have hI : OwnFrom W0.heap.size (fun (s : List Int) W => (∃ v, Boxed W w.heap.size 35 v ∧ W.ownsRow w.heap.size 3 1 v s.length (s.map (Value.int .i64)) ∧ True) ∧ Below w.heap.size w W) :=
    OwnFrom.and (Own.from (holdsRow_own _ _ _ _ _ _ _ (fun _ _ => True)) _) (ownFrom_below (Nat.le_refl _) (by omega))
  have HI := hide hI
  clear hI hi hc
  refine (callsIn_wide (n := 6)).1 ?_
  refine callsIn_of_wp_marks Tryz.func190 rfl trivial ?_ rfl
  simp only [Tryz.ntmps190, List.size_toArray, List.length_cons, List.length_nil, Nat.reduceAdd, Nat.reduceSub, Array.replicate_succ, Array.replicate_zero, List.push_toArray, List.append_toArray, List.nil_append, List.cons_append]
  gi_wp2
  clear hW0
  refine rangeC_outer (F := Fence.wide) rfl (by omega) (gf := 180) (fb := #[]) (lb := #[.pointer (some ⟨B, 0, none⟩)]) rfl trivial (enters_of Tryz.func180 (by kernel_rfl) rfl) rfl hIt.out
    (fun (s : List Int) W => (∃ v, Boxed W w.heap.size 35 v ∧ W.ownsRow w.heap.size 3 1 v s.length (s.map (Value.int .i64)) ∧ True) ∧ Below w.heap.size w W) (fun _ _ => False) HI.out (fun _ _ _ _ h _ _ => h) (fun s V h => h.2) ⟨⟨_, l0, World.ownsRow_nil _ _ _ _, trivial⟩, hB0⟩ ?round ?done ?stop
  case stop => exact fun c V h => h.elim
  case done =>
    rintro V ⟨⟨v, bv, ov, _⟩, hB⟩ hD
    have hc := bv.cell
    clear hIt HI l0
    gi_wp2
    refine ⟨by simp, .inl ⟨_, _, rfl, run_takeDeferred hD, ?_⟩⟩
    exact ⟨_, results_tmp rfl _ _ _, v, rfl, ownsRow_putObj ov _ hD rfl, hB.trans (belowK_b (w := w) (Nat.le_refl _) V W0.heap.size _ _ (by omega) hD rfl rfl)⟩
  case round =>
    rintro s x W hp ⟨r, hr⟩ hi
    have hlen : s.length < zs.length := by have := hp.length_le; simp at this; omega
    clear hIt l0
    gi_wp2
    refine ⟨KeepsFrom.refl _ _, fun V hg ⟨r1, hr1⟩ _ => ?_⟩
    obtain ⟨⟨v, hv, hrow, _⟩, hB⟩ := HI.out s _ V _ hi hg (fun r e => by cases e; exact ⟨by omega, _, hr1, rfl⟩)
    have cv := hv.cell
    have hUs := hB.size
    have HB := hide hB
    clear hi hg hr1 hr hB hp HI
    gi_wp2_with ((gi_at_builtin; refine wpListIn_append_own _ rfl _ _ 35 rfl w.heap.size 3 i0 (.int .i64 0) 1 8 Tryz.underlying35 hi0 hz0 hz1 hz2 rfl (by decide) _ _ _ rfl (hrow.alloc _) ⟨V.heap.size, 0, none⟩ 1 1 [.int .i64 x] rfl rfl (cell_one_new _ _ _) (by simp [Value.oneCell']) (by unfold maxLen; omega) (by omega) (by simp; omega) ?_; intro v' w1 hown' hgrow _; obtain ⟨g', cap', rfl⟩ := ownsRow_succ hown'; obtain ⟨hv1, hv2, hr2, hk2, hb2⟩ := hv.appended (by decide) hrow hUs (Nat.le_refl _) hown' hgrow; have hc1 := hv1.cell; have hf1 := hv1.frozen))
    refine ⟨hk2.from _, ⟨_, hv2, ?_, trivial⟩, HB.out.trans hb2⟩
    rw [List.length_append, List.map_append]
    exact hr2

theorem collect_any (B : Nat) (a : Option Addr) (cap : Nat) (zs : List Int) (w : World) (hB : B < w.heap.size) (hc : w.cell? ⟨B, 0, none⟩ = some (.slice a zs.length cap)) (hi : Ints w a zs) (hn : zs.length ≤ 1048576) :
    Calls Tryz.prog 178 #[.func (.func 180) #[] #[.pointer (some ⟨B, 0, none⟩)]] w (Gives zs w) := by
  have H := hide (appendSeq_any B a cap zs w hB hc hi hn)
  clear hB hc hi
  go_enter Tryz.func178, Tryz.ntmps178
  go_wp2_with fail
  refine H.out.mono ?_
  rintro e w1 ⟨v, rfl, ov, hb⟩
  go_wp2
  go_ret
  exact ⟨v, rfl, ov, hb⟩
end Go.Proofs.YtgebplpbnaeckaaGreatDoor

/- Ord: slices.Sorted at numbers; whether numbers are all issues once, in the program and in the model. -/
namespace Go.Proofs.YtgebplpbnaeckaaGreatDoor
open Go.RowKit Go.Joins Go.Sort

theorem sorted_any (B : Nat) (a : Option Addr) (cap : Nat) (zs : List Int) (w : World) (hB : B < w.heap.size) (hc : w.cell? ⟨B, 0, none⟩ = some (.slice a zs.length cap)) (hi : Ints w a zs) (hn : zs.length ≤ 1048576) (hpos : 0 < zs.length) :
    Calls Tryz.prog 165 #[.func (.func 180) #[] #[.pointer (some ⟨B, 0, none⟩)]] w (Gives (srt zs) w) := by
  have H := hide (collect_any B a cap zs w hB hc hi hn)
  clear hB hc hi
  go_enter Tryz.func165, Tryz.ntmps165
  go_wp2_with fail
  refine H.out.mono ?_
  rintro e w1 ⟨v, rfl, ov, hb⟩
  have ov' : w1.ownsRow w.heap.size 3 1 v zs.length (zs.map (Value.int .i64)) := ov
  rcases ov'.2 with ⟨_, h0⟩ | ⟨g, cv, cur, rfl, hg, hblk, h1, h2, h3, h4⟩
  · omega
  have HH := hide (holds_of_blockI (ss := zs) hblk (by rw [Nat.mul_one] at h4; exact h4))
  have hlt := lt_of_block hblk
  have HL := hide hblk
  clear ov ov' hblk
  go_wp2_with fail
  refine (Tryz.slices_Sort_int g 0 cv zs w1 HH.out hlt (by omega)).mono ?_
  rintro e w2 ⟨rfl, n, os, hw2⟩
  have HO : Hid (w2.ownsRow w.heap.size 3 1 (.slice (some ⟨g, 0, none⟩) zs.length cv) zs.length ((srt zs).map (Value.int .i64))) := by
    rw [hw2]; exact ownsRow_sortedI (base := w.heap.size) (n := n) (os := os) (srt_len zs) hg HL.out h1 h2 h3
  have HG : Hid (w1.grownBy w2 (some g)) := by rw [hw2]; exact grownBy_sortedI _
  clear hw2
  go_wp2
  go_ret
  refine ⟨_, rfl, ?_, hb.grown HG.out hb.size (fun k hk => by cases hk; exact hg)⟩
  unfold Owns
  rw [srt_len]
  exact HO.out

/-- all issues once -/
def OrdOk (n : Int) (ls : List Int) : Prop := (ls.length : Int) = n ∧ (∀ i, i < ls.length → 0 ≤ ls.getD i 0 ∧ ls.getD i 0 ≤ n - 1) ∧ ∀ i, i < ls.length → ∀ k, k < i → ls.getD k 0 ≠ ls.getD i 0
instance (n : Int) (ls : List Int) : Decidable (OrdOk n ls) := by unfold OrdOk; infer_instance
def ordB (n : Int) (ls : List Int) : Bool := decide (OrdOk n ls)
theorem ordB_true {n : Int} {ls : List Int} (h : OrdOk n ls) : ordB n ls = true := decide_eq_true h
theorem ordB_false {n : Int} {ls : List Int} (h : ¬ OrdOk n ls) : ordB n ls = false := decide_eq_false h
theorem ord_of {n : Int} {ls : List Int} (h : ordB n ls = true) : OrdOk n ls := of_decide_eq_true h
/-- strictly ascending numbers from 0 to one less than their number -/
theorem asc_full {d : List Int} (hp : d.Pairwise (· < ·)) (h0 : ∀ x ∈ d, 0 ≤ x ∧ x ≤ (d.length : Int) - 1) : ∀ j, (h : j < d.length) → d[j] = (j : Int) := by
  have lo : ∀ j, (h : j < d.length) → (j : Int) ≤ d[j] := by
    intro j
    induction j with
    | zero => exact fun h => (h0 _ (List.getElem_mem h)).1
    | succ j ih =>
      intro h
      have h1 := ih (by omega)
      have h2 := (List.pairwise_iff_getElem.1 hp) j (j + 1) (by omega) h (by omega)
      omega
  have hi : ∀ t, t < d.length → ∀ (h : d.length - 1 - t < d.length), d[d.length - 1 - t] ≤ ((d.length - 1 - t : Nat) : Int) := by
    intro t
    induction t with
    | zero =>
      intro h1 h
      have := (h0 _ (List.getElem_mem h)).2
      omega
    | succ t ih =>
      intro h1 h
      have h2 := ih (by omega) (by omega)
      have h3 := (List.pairwise_iff_getElem.1 hp) (d.length - 1 - (t + 1)) (d.length - 1 - t) h (by omega) (by omega)
      omega
  intro j h
  have h1 := lo j h
  have h2 := hi (d.length - 1 - j) (by omega) (by omega)
  have e : d.length - 1 - (d.length - 1 - j) = j := by omega
  simp only [e] at h2
  omega
theorem ordd_nodup {ls : List Int} (h : ∀ i, i < ls.length → ∀ k, k < i → ls.getD k 0 ≠ ls.getD i 0) : ls.Nodup := by
  rw [List.nodup_iff_pairwise_ne, List.pairwise_iff_getElem]
  intro i j hi hj hij
  have := h j hj i hij
  rwa [getD_lt hi, getD_lt hj] at this
theorem ordd_sorted {n : Int} {ls : List Int} (hl : (ls.length : Int) = n) : OrdOk n ls ↔ ∀ j, j < (srt ls).length → (srt ls).getD j 0 = (j : Int) := by
  constructor
  · rintro ⟨_, h1, h2⟩ j hj
    have hnd : (srt ls).Nodup := (srt_perm ls).nodup_iff.2 (ordd_nodup h2)
    have hp : (srt ls).Pairwise (· < ·) := by
      rw [List.pairwise_iff_getElem]
      intro a b ha hb hab
      have e1 := (List.pairwise_iff_getElem.1 (srt_sorted ls)) a b ha hb hab
      have e2 := (List.pairwise_iff_getElem.1 (List.nodup_iff_pairwise_ne.1 hnd)) a b ha hb hab
      omega
    rw [getD_lt hj]
    refine asc_full hp (fun x hx => ?_) j hj
    have hx' := (srt_perm ls).mem_iff.1 hx
    obtain ⟨i, hi, rfl⟩ := List.getElem_of_mem hx'
    have := h1 i hi
    rw [getD_lt hi] at this
    rw [srt_len]
    omega
  · intro h
    have hmem : ∀ x ∈ srt ls, ∃ j : Nat, j < ls.length ∧ x = (j : Int) := fun x hx => by
      obtain ⟨j, hj, rfl⟩ := List.getElem_of_mem hx
      have := h j hj
      rw [getD_lt hj] at this
      exact ⟨j, by rw [srt_len] at hj; exact hj, this⟩
    have hnd : ls.Nodup := by
      rw [← (srt_perm ls).nodup_iff, List.nodup_iff_pairwise_ne, List.pairwise_iff_getElem]
      intro i j hi hj hij
      have e1 := h i hi
      have e2 := h j hj
      rw [getD_lt hi] at e1
      rw [getD_lt hj] at e2
      omega
    refine ⟨hl, fun i hi => ?_, fun i hi k hk => ?_⟩
    · rw [getD_lt hi]
      obtain ⟨j, hj, e⟩ := hmem _ ((srt_perm ls).mem_iff.2 (List.getElem_mem hi))
      omega
    · have := (List.pairwise_iff_getElem.1 (List.nodup_iff_pairwise_ne.1 hnd)) k i (by omega) hi hk
      rwa [getD_lt (show k < ls.length by omega), getD_lt hi]

set_option maxHeartbeats 2000000 in
theorem isOrder_any (n : Int) (a : Option Addr) (cap : Nat) (ls : List Int) (w : World) (hi : Ints w a ls) (h1 : 1 ≤ n) (h4 : n ≤ 4) (hm : ls.length ≤ 1048576) :
    Calls Tryz.prog 141 #[.int .i64 n, .slice a ls.length cap] w fun e w' => e = .returned (.bool (ordB n ls)) ∧ Below w.heap.size w w' := by
  by_cases hl : (ls.length : Int) = n
  · have hpos : 0 < ls.length := by omega
    have hne : ((ls.length : Int) != n) = false := by rw [bne_eq_false_iff_eq]; exact hl
    have HS := hide (ordd_sorted hl)
    have hb1 := bel1 w (.cells #[.slice a ls.length cap] 35)
    have HSO := hide (sorted_any w.heap.size a cap ls (w.alloc (.cells #[.slice a ls.length cap] 35)) (by simp) (by simp [go_sem]) (hi.below hb1) hm hpos)
    have hsl : (srt ls).length ≤ 1048576 := by rw [srt_len]; exact hm
    clear hl hi
    go_enter Tryz.func141, Tryz.ntmps141
    go_wp2_with ((go_at_call 166; refine (values_any _ _ _ _).mono ?_; rintro e w' ⟨rfl, rfl⟩))
    refine HSO.out.mono ?_
    rintro e w2 ⟨v, rfl, ov, hb2⟩
    have hB := bnext hb1 hb2
    obtain ⟨av, cv, rfl, iv, _⟩ := ov.form
    clear hb1 hb2 ov hne
    go_wp2
    go_loop [15] (fun i => ∃ k : Nat, k ≤ (srt ls).length ∧ i = .int .i64 k ∧ ∀ j, j < k → (srt ls).getD j 0 = (j : Int)) (fun i => (srt ls).length - (intOf i).toNat)
    case atStart => exact ⟨0, Nat.zero_le _, rfl, fun j hj => by omega⟩
    case round =>
      obtain ⟨k, hk, rfl, hall⟩ := hrel
      have HA := hide hall
      clear hall
      by_cases hlt : k < (srt ls).length
      · obtain ⟨b, off, rfl, hbl, hc⟩ := iv (by omega)
        have hck := hc k hlt
        by_cases he : (srt ls).getD k 0 = (k : Int)
        · have HE := hide he
          rw [he] at hck
          clear hc iv he
          go_wp2
          go_round
          case rel => exact ⟨k + 1, by omega, by go_num, fun j hj => by
            rcases Nat.lt_or_ge j k with h | h
            · exact HA.out j h
            · obtain rfl : j = k := by omega
              exact HE.out⟩
          case measure => simp only [intOf]; omega
        · have hE : ((srt ls).getD k 0 != (k : Int)) = true := by rw [bne_iff_ne]; exact he
          have HN : Hid (ordB n ls = false) := ordB_false (fun h => he (HS.out.1 h k hlt))
          obtain ⟨x, hx⟩ : ∃ x, (srt ls).getD k 0 = x := ⟨_, rfl⟩
          rw [hx] at hck hE
          clear hc iv he hx
          go_wp2
          go_ret
          exact ⟨ret_bool HN.out.symm, hB⟩
      · obtain rfl : k = (srt ls).length := by omega
        have HN : Hid (ordB n ls = true) := ordB_true (HS.out.2 HA.out)
        go_wp2
        go_ret
        exact ⟨ret_bool HN.out.symm, hB⟩
  · have hne : ((ls.length : Int) != n) = true := by rw [bne_iff_ne]; exact hl
    have HN := hide (ordB_false (fun h : OrdOk n ls => hl h.1))
    clear hl
    go_enter Tryz.func141, Tryz.ntmps141
    go_wp2
    go_ret
    exact ⟨ret_bool HN.out.symm, Below.refl _ _⟩
end Go.Proofs.YtgebplpbnaeckaaGreatDoor
