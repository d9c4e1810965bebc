/- Texts of this seat one behind the other: PrsI, PrsJ, Bits, Has. Conditions: none. -/
import Derived.Test.YtgebplpbnaeckaaGreatDoorShelfb
import Derived.Test.YtgebplpbnaeckaaGreatDoorMg03
import Derived.Test.YtgebplpbnaeckaaGreatDoorMg02
import Derived.Lib.SmallJoins
import Derived.Lib.AtoiAllCases
import Derived.WalkKit
import Derived.Laws.BitsAllLaws
import Derived.OpenShut

/- PrsI: Reading texts, of the program: numbers. -/
namespace Go.Proofs.YtgebplpbnaeckaaGreatDoor
open Go.RowKit Go.Joins

theorem gPow : Tryz.prog.globalNamed "internal/strconv.uint64pow10" = some 5 := by kernel_rfl
theorem tab_below {w w' : World} (h : Lib.TabIs Tryz.prog w "internal/strconv.uint64pow10" .u64 Lib.pow10Tab) (hb : Below w.heap.size w w') : Lib.TabIs Tryz.prog w' "internal/strconv.uint64pow10" .u64 Lib.pow10Tab := by
  unfold Lib.TabIs World.var? at h ⊢
  rw [gPow] at h ⊢
  simp only [Option.bind_some] at h ⊢
  have hlt : 5 < w.heap.size := by
    rcases Nat.lt_or_ge 5 w.heap.size with h' | h'
    · exact h'
    · rw [Array.getElem?_eq_none h'] at h; cases h
  rw [hb.block 5 hlt]
  exact h
/-- what the program's tables hold -/
structure GV (w : World) : Prop where
  ml : ∃ m : Int, w.cell? ⟨2, 0, none⟩ = some (.int .i64 m)
  syn : ∃ ev : Value, w.cell? ⟨8, 0, none⟩ = some ev ∧ (ev = .nilIface ∨ ∃ te pe, ev = .iface te pe)
  rng : ∃ ev : Value, w.cell? ⟨9, 0, none⟩ = some ev ∧ (ev = .nilIface ∨ ∃ te pe, ev = .iface te pe)
  tab : Lib.TabIs Tryz.prog w "internal/strconv.uint64pow10" .u64 Lib.pow10Tab
theorem GV.below {w w' : World} (h : GV w) (hb : Below w.heap.size w w') : GV w' := by
  obtain ⟨⟨m, h1⟩, ⟨e2, h2, h3⟩, ⟨e4, h4, h5⟩, h6⟩ := h
  exact ⟨⟨m, (hb.cell (p := ⟨2, 0, none⟩) (World.block_lt_of_cell? w ⟨2, 0, none⟩ h1)).trans h1⟩, ⟨e2, (hb.cell (p := ⟨8, 0, none⟩) (World.block_lt_of_cell? w ⟨8, 0, none⟩ h2)).trans h2, h3⟩, ⟨e4, (hb.cell (p := ⟨9, 0, none⟩) (World.block_lt_of_cell? w ⟨9, 0, none⟩ h4)).trans h4, h5⟩, tab_below h6 hb⟩
theorem GV.drew {w : World} (h : GV w) : GV w.drew := h.below (bdrew' (Below.refl _ _))
/-- what parseNumber answers -/
def PnE (o : Option Int) (e : Ending) : Prop := (∃ v : Int, o = some v ∧ e = .returned (.tuple #[.int .i64 v, .bool true])) ∨ (o = none ∧ e = .returned (.tuple #[.int .i64 0, .bool false]))
theorem grow_below {w : World} {k : Nat} {os : Array Obj} : Below w.heap.size w (Go.Sort.grow (w.drewN k) os) := by
  refine ⟨rfl, rfl, rfl, ?_, fun j hj => ?_⟩
  · rw [Go.Sort.size_grow]; exact Nat.le_add_right _ _
  · show (w.heap ++ os)[j]? = _
    rw [Array.getElem?_append, if_pos hj]
theorem atoi_ok_was (s : ByteArray) (v : Int) (w : World) (hs : s.size ≤ 1048576) (h : Lib.atoiAll s.data.toList = .ok v) :
    Calls Tryz.prog 158 #[.string s] w fun e w' => e = .returned (.tuple #[.int .i64 v, .nilIface]) ∧ Below w.heap.size w w' := by
  refine (Tryz.strconv_Atoi_ok s (by omega) v h w).mono ?_
  rintro e w' ⟨rfl, rfl | ⟨t, rfl⟩⟩
  · exact ⟨rfl, Below.refl _ _⟩
  · exact ⟨rfl, below_bytesWorld _ _ _ _ (Nat.le_refl _)⟩
theorem atoi_bad_was (s : ByteArray) (w : World) (hs : s.size ≤ 1048576) (hg : GV w) (h : ∀ v, Lib.atoiAll s.data.toList ≠ .ok v) :
    Calls Tryz.prog 158 #[.string s] w fun e w' => (∃ (x : Int) (t : TypeId) (p : Value), e = .returned (.tuple #[.int .i64 x, .iface t p])) ∧ Below w.heap.size w w' := by
  cases hc : Lib.atoiAll s.data.toList with
  | ok v => exact absurd hc (h v)
  | «syntax» =>
    obtain ⟨ev, h1, h2⟩ := hg.syn
    refine (Tryz.strconv_Atoi_syntax s (by omega) hc ev w h1 h2).mono ?_
    rintro e w' ⟨N, rfl, _, _, hb⟩
    exact ⟨⟨_, _, _, rfl⟩, hb⟩
  | range =>
    obtain ⟨ev, h1, h2⟩ := hg.rng
    refine (Tryz.strconv_Atoi_range s (by omega) hc ev w h1 h2).mono ?_
    rintro e w' ⟨N, rfl, _, _, hb⟩
    exact ⟨⟨_, _, _, rfl⟩, hb⟩
theorem itoa_all (n : Int) (S : ByteArray) (w : World) (h : -9223372036854775808 ≤ n ∧ n ≤ 9223372036854775807) (hg : GV w) (hS : ⟨(Lib.itoa n).toArray⟩ = S) :
    Calls Tryz.prog 73 #[.int .i64 n] w fun e w' => e = .returned (.string S) ∧ Below w.heap.size w w' := by
  subst hS
  refine (Tryz.strconv_Itoa n h.1 h.2 w hg.tab).mono ?_
  rintro e w' ⟨rfl, k, os, rfl⟩
  exact ⟨rfl, grow_below⟩
set_option maxHeartbeats 1000000 in
theorem parseNumber_any (s : ByteArray) (o : Option Int) (w : World) (hs : s.size ≤ 1048576) (hg : GV w) (ho : prN s.data.toList = o) :
    Calls Tryz.prog 131 #[.string s] w fun e w' => PnE o e ∧ Below w.heap.size w w' := by
  subst ho
  by_cases hc : ∃ v, Lib.atoiAll s.data.toList = .ok v
  · obtain ⟨v, hv⟩ := hc
    have hb := Lib.atoiAll_bounds hv
    have HV := hide hv
    obtain ⟨S, hS⟩ : ∃ S : ByteArray, ⟨(Lib.itoa v).toArray⟩ = S := ⟨_, rfl⟩
    have HS := hide hS
    by_cases hq : S.toList = s.toList
    · have hi : Lib.itoa v = s.data.toList := by
        rw [ByteArray.toList_eq, ByteArray.toList_eq, ← hS] at hq
        simpa using hq
      have HO : Hid (prN s.data.toList = some v) := by unfold Hid prN; rw [hv]; simp only; rw [if_pos hi]
      have hne : (!(S.toList == s.toList)) = false := by rw [hq]; simp
      have hne2 : (S.toList == s.toList) = true := by rw [hq]; simp
      clear hi hS hv
      go_enter Tryz.func131, Tryz.ntmps131
      go_wp2_with fail
      refine (atoi_ok_was s v _ hs HV.out).mono ?_
      rintro e w1 ⟨rfl, hb1⟩
      go_wp2_with (go_at_call 73; refine (itoa_all v S _ hb (hg.below hb1) HS.out).mono ?_; rintro e w2 ⟨rfl, hb2⟩)
      go_ret2
      exact ⟨.inl ⟨v, HO.out, rfl⟩, bnext hb1 hb2⟩
    · have hi : ¬ Lib.itoa v = s.data.toList := fun e => hq (by
        rw [ByteArray.toList_eq, ByteArray.toList_eq, ← hS, ← e])
      have HO : Hid (prN s.data.toList = none) := by unfold Hid prN; rw [hv]; simp only; rw [if_neg hi]
      have hne2 : (S.toList == s.toList) = false := by rw [beq_eq_false_iff_ne]; exact hq
      have hne : (!(S.toList == s.toList)) = true := by rw [hne2]; rfl
      clear hi hS hv hq
      go_enter Tryz.func131, Tryz.ntmps131
      go_wp2_with fail
      refine (atoi_ok_was s v _ hs HV.out).mono ?_
      rintro e w1 ⟨rfl, hb1⟩
      go_wp2_with (go_at_call 73; refine (itoa_all v S _ hb (hg.below hb1) HS.out).mono ?_; rintro e w2 ⟨rfl, hb2⟩)
      go_ret2
      exact ⟨.inr ⟨HO.out, rfl⟩, bnext hb1 hb2⟩
  · have hc' : ∀ v, Lib.atoiAll s.data.toList ≠ .ok v := fun v e => hc ⟨v, e⟩
    have HO : Hid (prN s.data.toList = none) := by
      unfold Hid prN
      split
      · rename_i x hx; exact absurd hx (hc' x)
      · rfl
    have HC := hide hc'
    clear hc hc'
    go_enter Tryz.func131, Tryz.ntmps131
    go_wp2_with fail
    refine (atoi_bad_was s _ hs hg HC.out).mono ?_
    rintro e w1 ⟨⟨x, t, p, rfl⟩, hb1⟩
    go_wp2
    go_ret2
    exact ⟨.inr ⟨HO.out, rfl⟩, hb1⟩
end Go.Proofs.YtgebplpbnaeckaaGreatDoor

/- PrsJ: Reading texts, of the program: lists of numbers. -/
namespace Go.Proofs.YtgebplpbnaeckaaGreatDoor
open Go.RowKit Go.Joins

/-- what is read of the first pieces -/
def PrTo (ls : List (List UInt8)) (k : Nat) (zs : List Int) : Prop := zs.length = k ∧ (prL (ls.drop k) = none → prL ls = none) ∧ ∀ r, prL (ls.drop k) = some r → prL ls = some (zs ++ r)
theorem prTo_zero (ls : List (List UInt8)) : PrTo ls 0 [] := ⟨rfl, fun h => h, fun _ h => h⟩
theorem prTo_bad {ls : List (List UInt8)} {k : Nat} {zs : List Int} (h : PrTo ls k zs) (hk : k < ls.length) (hp : prN ls[k] = none) : prL ls = none := by
  refine h.2.1 ?_
  rw [List.drop_eq_getElem_cons hk, prL, hp]
theorem prTo_step {ls : List (List UInt8)} {k : Nat} {zs : List Int} {x : Int} (h : PrTo ls k zs) (hk : k < ls.length) (hp : prN ls[k] = some x) : PrTo ls (k + 1) (zs ++ [x]) := by
  have hd : prL (ls.drop k) = match prL (ls.drop (k + 1)) with | none => none | some xs => some (x :: xs) := by
    rw [List.drop_eq_getElem_cons hk, prL, hp]
    rfl
  refine ⟨by rw [List.length_append, h.1]; rfl, fun e => ?_, fun r e => ?_⟩
  · rw [e] at hd
    exact h.2.1 hd
  · rw [e] at hd
    rw [h.2.2 _ hd, List.append_assoc]
    rfl
theorem prTo_end {ls : List (List UInt8)} {zs : List Int} (h : PrTo ls ls.length zs) : prL ls = some zs := by
  have := h.2.2 [] (by rw [List.drop_length]; rfl)
  rw [List.append_nil] at this
  exact this
/-- what parseNumbers answers -/
def PlE (m : Nat) (o : Option (List Int)) (w w' : World) (e : Ending) : Prop := (∃ zs a cap, o = some zs ∧ e = .returned (.tuple #[.slice a zs.length cap, .bool true]) ∧ Owns w' w.heap.size (.slice a zs.length cap) zs ∧ zs.length ≤ m + 1) ∨ (o = none ∧ e = .returned (.tuple #[.slice none 0 0, .bool false]))
theorem split_size (s : ByteArray) : ∀ p ∈ (Lib.splitB ⟨#[44]⟩ 0 (Lib.countB s ⟨#[44]⟩) s), p.size ≤ s.size := fun p hp => by
  have h1 := split_spl 44 s.size s (Nat.le_refl _)
  have hm : p.data.toList ∈ spl 44 s.data.toList := by rw [← h1]; exact List.mem_map_of_mem hp
  have key : ∀ (l : List UInt8), ∀ q ∈ spl 44 l, q.length ≤ l.length := by
    intro l
    induction l with
    | nil => intro q hq; simp [spl] at hq; subst hq; exact Nat.le_refl _
    | cons b r ih =>
      intro q hq
      by_cases hb : b = 44
      · subst hb
        rw [spl_at] at hq
        rcases List.mem_cons.1 hq with rfl | hq
        · simp
        · have := ih q hq
          rw [List.length_cons]; omega
      · obtain ⟨y, ys, e1, e2⟩ := spl_cons hb r
        have hy := ih y (by rw [e1]; simp)
        rw [e2] at hq
        rcases List.mem_cons.1 hq with rfl | hq
        · rw [List.length_cons, List.length_cons]; omega
        · have := ih q (by rw [e1]; simp [hq])
          rw [List.length_cons]; omega
  have := key _ _ hm
  rw [Array.length_toList, Array.length_toList] at this
  exact this
theorem parseNumber_was (s : ByteArray) (o : Option Int) (w : World) (hs : s.size ≤ 1048576) (hg : GV w) (ho : prN s.data.toList = o) :
    Calls Tryz.prog 131 #[.string s] w fun e w' => PnE o e ∧ Below w.heap.size w w' := parseNumber_any s o w hs hg ho
set_option maxHeartbeats 1000000 in
set_option maxRecDepth 100000 in
theorem parseNumbers_any (s : ByteArray) (o : Option (List Int)) (w : World) (hs : s.size ≤ 1048576) (hg : GV w) (ho : prL (spl 44 s.data.toList) = o) :
    Calls Tryz.prog 114 #[.string s] w fun e w' => PlE s.size o w w' e ∧ Below w.heap.size w w' := by
  obtain ⟨i0, hi0, hz0, hz1, hz2⟩ := info_parts info_int
  obtain ⟨m, hm⟩ := hg.ml
  obtain ⟨ps, hps⟩ : ∃ ps, ps = Lib.splitB ⟨#[44]⟩ 0 (Lib.countB s ⟨#[44]⟩) s := ⟨_, rfl⟩
  have hsp := split_spl 44 s.size s (Nat.le_refl _)
  have hsz := split_size s
  have hlen : ps.length = Lib.countB s ⟨#[44]⟩ + 1 := by rw [hps]; exact Lib.splitB_all ⟨#[44]⟩ (Nat.le_refl _) 0 _ s rfl
  have hcl : Lib.countB s ⟨#[44]⟩ ≤ s.size := Lib.countB_le ⟨#[44]⟩ (Nat.le_refl _) s.size s (Nat.le_refl _)
  have HSP := hide (Tryz.strings_Split s ⟨#[44]⟩ m w (by omega) hm (Nat.le_refl _))
  rw [← hps, ← hlen] at HSP
  rw [← hps] at hsp hsz
  have hpl : ps.length ≤ 1048577 := by omega
  have hpl2 : ps.length ≤ s.size + 1 := by omega
  have HSZ := hide hsz
  have HMP := hide hsp
  subst ho
  rw [← hsp]
  have BB := bel1 w (.cells (ps.map Value.string).toArray 9)
  have kb := heap_alloc_new w (.cells (ps.map Value.string).toArray 9)
  have hcell : ∀ k (hk : k < ps.length), (w.alloc (.cells (ps.map Value.string).toArray 9)).cell? ⟨w.heap.size, k, none⟩ = some (.string ps[k]) := fun k hk => by
    rw [cell_of_block kb k]
    simp [hk]
  obtain ⟨W, hW⟩ : ∃ W : World, W = w.alloc (.cells (ps.map Value.string).toArray 9) := ⟨_, rfl⟩
  rw [← hW] at BB kb hcell
  have hW1 : w.heap.size < W.heap.size := lt_of_block kb
  have HKB := hide kb
  clear hps hsp hsz hlen hcl kb hm
  go_enter Tryz.func114, Tryz.ntmps114
  go_wp2_with fail
  refine HSP.out.mono ?_
  rintro e w1 ⟨rfl, rfl⟩
  rw [← hW]
  clear hW
  go_wp2_with fail
  go_loopw [4, 12] (fun v iv wr => ∃ (k : Nat) (zs : List Int), k ≤ ps.length ∧ iv = .int .i64 k ∧ wr.ownsRow W.heap.size 3 1 v k (zs.map (Value.int .i64)) ∧ Hid (PrTo (ps.map (·.data.toList)) k zs) ∧ Below W.heap.size W wr) (fun _ i _ => ps.length - (intOf i).toNat)
  case atStart => exact ⟨0, [], Nat.zero_le _, rfl, World.ownsRow_nil _ _ _ _, prTo_zero _, Below.refl _ _⟩
  case round =>
    obtain ⟨k, zs, hk, rfl, own, HP, BR⟩ := hrel
    have hszr := BR.size
    have hzl := HP.out.1
    have HZL := hide hzl
    clear hzl
    by_cases hlt : k < ps.length
    · have hck := (BR.cell (p := ⟨w.heap.size, k, none⟩) hW1).trans (hcell k hlt)
      have hsm : (ps[k]).size ≤ 1048576 := Nat.le_trans (HSZ.out _ (List.getElem_mem hlt)) hs
      have hml : k < (ps.map (·.data.toList)).length := by rw [List.length_map]; exact hlt
      have HBAD := hide (prTo_bad HP.out hml)
      have HSTEP : Hid (∀ x, prN (ps.map (·.data.toList))[k] = some x → PrTo (ps.map (·.data.toList)) (k + 1) (zs ++ [x])) := fun x => prTo_step HP.out hml
      rw [List.getElem_map] at HBAD HSTEP
      have hgr := hg.below (BB.trans (BR.mono BB.size))
      obtain ⟨p, hp⟩ : ∃ p, p = ps[k] := ⟨_, rfl⟩
      rw [← hp] at hck HBAD HSTEP hsm
      clear hp
      cases hpn : prN p.data.toList with
      | none =>
        have HN := hide (HBAD.out hpn)
        have HPN := hide hpn
        clear hpn
        go_wp2_with fail
        refine (parseNumber_any p _ _ hsm hgr HPN.out).mono ?_
        rintro e w3 ⟨hE, hb3⟩
        rcases hE with ⟨v, hv, rfl⟩ | ⟨_, rfl⟩
        · cases hv
        go_wp2
        go_ret2
        exact ⟨.inr ⟨HN.out, rfl⟩, (BB.trans (BR.mono BB.size)).trans (hb3.mono (by omega))⟩
      | some x =>
        have HST := hide (HSTEP.out x hpn)
        have HPN := hide hpn
        clear hpn
        go_wp2_with fail
        refine (parseNumber_any p _ _ hsm hgr HPN.out).mono ?_
        rintro e w3 ⟨hE, hb3⟩
        rcases hE with ⟨v, hv, rfl⟩ | ⟨hv, _⟩
        · cases hv
          have own3 := World.ownsRow.kept own (row := none) ⟨hb3.os, hb3.tape, hb3.output, hb3.size, fun k hk _ => hb3.block k hk⟩ (by
            rcases hob : u4.ownBlock with _ | g
            · exact .inl rfl
            · exact .inr (by intro e; cases e))
          have BR3 := BR.trans (hb3.mono hszr)
          clear own hck
          go_wp2_with ((at_builtin; refine wpList_append_apart _ rfl _ _ 35 rfl W.heap.size 3 i0 (.int .i64 0) 1 8 Tryz.underlying35 hi0 hz0 hz1 hz2 rfl (by decide) _ k _ rfl (own3.alloc _) ⟨w3.heap.size, 0, none⟩ 1 1 [.int .i64 x] rfl rfl (cell_one_new _ _ _) (by intro u hu; simp at hu; subst hu; rfl) (by decide) (by unfold maxLen; omega) (by omega) (by have := BR3.size; simp; omega) ?_))
          intro v' w4 hown4 hgrow _
          have hbel := hide ((BR3.alloc BR3.size (.cells #[.int .i64 x] 3)).grown hgrow (by have := BR3.size; simp; omega) (fun j hj => (World.ownsRow.lt own3 j hj).1))
          have HO : Hid (w4.ownsRow W.heap.size 3 1 v' (k + 1) ((zs ++ [x]).map (Value.int .i64))) := by
            unfold Hid
            rw [List.map_append]
            exact hown4
          clear hown4 hgrow own3 BR3
          go_wp2
          go_roundw
          case rel => exact ⟨k + 1, zs ++ [x], by omega, by go_num, HO.out, HST.out, hbel.out⟩
          case measure => simp only [intOf]; omega
        · cases hv
    · obtain rfl : k = ps.length := by omega
      have HN : Hid (prL (ps.map (·.data.toList)) = some zs) := prTo_end (by rw [List.length_map]; exact HP.out)
      have HO : Hid (Owns wr W.heap.size u4 zs) := by unfold Hid Owns; rw [HZL.out]; exact own
      clear own
      go_wp2
      go_ret2
      obtain ⟨a5, c5, hv5, _, _⟩ := HO.out.form
      subst hv5
      exact ⟨.inl ⟨zs, a5, c5, HN.out, rfl, HO.out.le BB.size, by rw [HZL.out]; exact hpl2⟩, BB.trans (BR.mono BB.size)⟩
end Go.Proofs.YtgebplpbnaeckaaGreatDoor

/- Bits: Go's bit operations on int at small numbers. Nothing of the program. -/
namespace Go.Proofs.YtgebplpbnaeckaaGreatDoor
open Go.RowKit

theorem ofInt_small (a : Nat) (ha : a < 9223372036854775808) : (BitVec.ofInt 64 (a : Int)).toNat = a := by
  rw [BitVec.ofInt_natCast, BitVec.toNat_ofNat]; exact Nat.mod_eq_of_lt (by omega)
theorem xor_small (a b : Nat) (ha : a < 16) (hb : b < 16) : bits .xor .i64 (a : Int) (b : Int) = ((a ^^^ b : Nat) : Int) := by
  have hx : a ^^^ b < 2 ^ 4 := Nat.xor_lt_two_pow (by omega) (by omega)
  show IntKind.i64.wrap ((BitVec.ofInt 64 (a : Int) ^^^ BitVec.ofInt 64 (b : Int)).toNat : Int) = _
  rw [BitVec.toNat_xor, ofInt_small a (by omega), ofInt_small b (by omega), IntKind.wrap_i64]
  omega
theorem and_small (a b : Nat) (ha : a < 16) (hb : b < 16) : bits .and .i64 (a : Int) (b : Int) = ((a &&& b : Nat) : Int) := by
  have hx : a &&& b < 2 ^ 4 := Nat.and_lt_two_pow _ (by omega)
  show IntKind.i64.wrap ((BitVec.ofInt 64 (a : Int) &&& BitVec.ofInt 64 (b : Int)).toNat : Int) = _
  rw [BitVec.toNat_and, ofInt_small a (by omega), ofInt_small b (by omega), IntKind.wrap_i64]
  omega
theorem or_small (a b : Nat) (ha : a < 16) (hb : b < 16) : bits .or .i64 (a : Int) (b : Int) = ((a ||| b : Nat) : Int) := by
  have hx : a ||| b < 2 ^ 4 := Nat.or_lt_two_pow (by omega) (by omega)
  show IntKind.i64.wrap ((BitVec.ofInt 64 (a : Int) ||| BitVec.ofInt 64 (b : Int)).toNat : Int) = _
  rw [BitVec.toNat_or, ofInt_small a (by omega), ofInt_small b (by omega), IntKind.wrap_i64]
  omega
theorem bv_andNot (B C : BitVec 64) : B &&& ~~~C = 0#64 ↔ B &&& C = B := by
  constructor
  · intro h
    apply BitVec.eq_of_getLsbD_eq
    intro i hi
    have := congrArg (fun v : BitVec 64 => v.getLsbD i) h
    simp [hi] at this ⊢
    exact this
  · intro h
    apply BitVec.eq_of_getLsbD_eq
    intro i hi
    have := congrArg (fun v : BitVec 64 => v.getLsbD i) h
    simp [hi] at this ⊢
    exact this
theorem wrap_zero (r : BitVec 64) : IntKind.i64.wrap (r.toNat : Int) = 0 ↔ r = 0#64 := by
  have hr := r.isLt
  rw [IntKind.wrap_i64]
  constructor
  · intro h
    apply BitVec.eq_of_toNat_eq
    simp
    omega
  · rintro rfl
    simp
/-- 'b &^ c == 0' says that b has no digit beside c's: so b is a number within c's. -/
theorem andNot_zero (b : Int) (c : Nat) (hb : (Lit.int .i64 b).wf = true) (hc : c < 16) : bits .andNot .i64 b (c : Int) = 0 ↔ (0 ≤ b ∧ b.toNat &&& c = b.toNat) := by
  have hbb := bounds_i64 hb
  show IntKind.i64.wrap ((BitVec.ofInt 64 b &&& ~~~BitVec.ofInt 64 (c : Int)).toNat : Int) = 0 ↔ _
  rw [wrap_zero, bv_andNot]
  have hC := ofInt_small c (by omega)
  constructor
  · intro h
    have h2 : (BitVec.ofInt 64 b).toNat &&& c = (BitVec.ofInt 64 b).toNat := by
      have := congrArg BitVec.toNat h
      rwa [BitVec.toNat_and, hC] at this
    have hle : (BitVec.ofInt 64 b).toNat ≤ c := by rw [← h2]; exact Nat.and_le_right
    have hto := BitVec.toNat_ofInt (n := 64) b
    have hb0 : 0 ≤ b := by omega
    have e : (BitVec.ofInt 64 b).toNat = b.toNat := by omega
    rw [e] at h2
    exact ⟨hb0, h2⟩
  · rintro ⟨h0, h⟩
    obtain ⟨b', rfl⟩ := Int.eq_ofNat_of_zero_le h0
    rw [Int.toNat_natCast] at h
    apply BitVec.eq_of_toNat_eq
    rw [BitVec.toNat_and, hC, ofInt_small b' (by omega), h]
/-- the judgment x has all answers of the part -/
def hpB (x c b : Int) : Bool := x.toNat &&& c.toNat == b.toNat
theorem hp_and {x c b : Int} (hx : 0 ≤ x ∧ x ≤ 15) (hc : 0 ≤ c ∧ c ≤ 15) (hb : 0 ≤ b) : (bits .and .i64 x c == b) = hpB x c b := by
  obtain ⟨x, rfl⟩ := Int.eq_ofNat_of_zero_le hx.1
  obtain ⟨c, rfl⟩ := Int.eq_ofNat_of_zero_le hc.1
  obtain ⟨b, rfl⟩ := Int.eq_ofNat_of_zero_le hb
  rw [and_small x c (by omega) (by omega)]
  unfold hpB
  rw [Bool.eq_iff_iff, beq_iff_eq, beq_iff_eq]
  simp only [Int.toNat_natCast]
  omega
end Go.Proofs.YtgebplpbnaeckaaGreatDoor

/- Has: Whether a list has a number: the model's loop and slices.Contains; InSpace. -/
namespace Go.Proofs.YtgebplpbnaeckaaGreatDoor
open Go.RowKit Go.Joins

def hasB (zs : List Int) (x : Int) : Bool := decide (x ∈ zs)
theorem mem_of_at {zs : List Int} {k : Nat} (h : k < zs.length) : zs[k] ∈ zs := List.getElem_mem h
theorem not_mem_of {zs : List Int} {x : Int} (h : ∀ j, j < zs.length → zs.getD j 0 ≠ x) : x ∉ zs := by
  intro hm
  obtain ⟨j, hj, e⟩ := List.getElem_of_mem hm
  exact h j hj (by rw [getD_lt hj]; exact e)
theorem hasB_true {zs : List Int} {x : Int} (h : x ∈ zs) : hasB zs x = true := by simpa [hasB] using h
theorem hasB_false {zs : List Int} {x : Int} (h : x ∉ zs) : hasB zs x = false := by simpa [hasB] using h

set_option maxHeartbeats 400000 in
theorem has_any (n x : Int) (a : Option Addr) (cap : Nat) (zs : List Int) (w : World) (hi : Ints w a zs) (hn : zs.length ≤ 1048576) :
    Calls Tryz.prog 29 #[.agg #[.int .i64 n, .slice a zs.length cap], .int .i64 x] w fun e w' => e = .returned (.bool (hasB zs x)) ∧ Below w.heap.size w w' := by
  have bx := Box.new w n a zs.length cap 37
  have ia := hi.below (bel1 w (.cells #[.int .i64 n, .slice a zs.length cap] 37))
  clear hi
  go_enter Tryz.func29, Tryz.ntmps29
  go_wp2_with fail
  go_loopw [5] (fun i wr => ∃ k : Nat, k ≤ zs.length ∧ i = .int .i64 k ∧ (∀ j, j < k → zs.getD j 0 ≠ x) ∧ Below (w.alloc (.cells #[.int .i64 n, .slice a zs.length cap] 37)).heap.size (w.alloc (.cells #[.int .i64 n, .slice a zs.length cap] 37)) wr) (fun i _ => zs.length - (intOf i).toNat)
  case atStart => exact ⟨0, Nat.zero_le _, rfl, fun j hj => by omega, Below.refl _ _⟩
  case round =>
    obtain ⟨k, hk, rfl, hall, hb⟩ := hrel
    have HA := hide hall
    clear hall
    obtain ⟨_, c0, c1⟩ := bx.below hb
    by_cases hlt : k < zs.length
    · obtain ⟨b, off, rfl, hbl, hc⟩ := (ia.below hb) (by omega)
      have hck := hc k hlt
      rw [getD_lt hlt] at hck
      clear hc ia
      by_cases he : zs[k] = x
      · have hE : (zs[k] == x) = true := by simpa using he
        have HF := hide (hasB_true (zs := zs) (x := x) (he ▸ mem_of_at hlt))
        clear he
        go_wp2
        go_ret
        exact ⟨ret_bool HF.out.symm, bnext (bel1 w _) hb⟩
      · have hE : (zs[k] == x) = false := by simpa using he
        have HE := hide he
        clear he
        go_wp2
        go_roundw
        case rel => exact ⟨k + 1, by omega, by go_num, fun j hj => by
          rcases Nat.lt_or_ge j k with h | h
          · exact HA.out j h
          · obtain rfl : j = k := by omega
            rw [getD_lt hlt]
            exact HE.out, hb⟩
        case measure => simp only [intOf]; omega
    · obtain rfl : k = zs.length := by omega
      go_wp2
      go_ret
      exact ⟨ret_bool (hasB_false (not_mem_of HA.out)).symm, bnext (bel1 w _) hb⟩

/-- What slices.Index leaves. -/
def IdxPost (zs : List Int) (x : Int) (w : World) (e : Ending) (w' : World) : Prop :=
  ∃ r : Int, ((x ∈ zs ∧ 0 ≤ r) ∨ (x ∉ zs ∧ r = -1)) ∧ r ≤ 1048576 ∧ e = .returned (.int .i64 r) ∧ Below w.heap.size w w'

set_option maxHeartbeats 400000 in
theorem index_any (x : Int) (a : Option Addr) (cap : Nat) (zs : List Int) (w : World) (hi : Ints w a zs) (hn : zs.length ≤ 1048576) :
    Calls Tryz.prog 159 #[.slice a zs.length cap, .int .i64 x] w (IdxPost zs x w) := by
  go_enter Tryz.func159, Tryz.ntmps159
  go_wp2_with fail
  go_loopw [8] (fun i wr => ∃ k : Nat, k ≤ zs.length ∧ i = .int .i64 k ∧ (∀ j, j < k → zs.getD j 0 ≠ x) ∧ Below w.heap.size w wr) (fun i _ => zs.length - (intOf i).toNat)
  case atStart => exact ⟨0, Nat.zero_le _, rfl, fun j hj => by omega, Below.refl _ _⟩
  case round =>
    obtain ⟨k, hk, rfl, hall, hb⟩ := hrel
    have HA := hide hall
    clear hall
    by_cases hlt : k < zs.length
    · obtain ⟨b, off, rfl, hbl, hc⟩ := (hi.below hb) (by omega)
      have hck := hc k hlt
      rw [getD_lt hlt] at hck
      clear hc hi
      by_cases he : x = zs[k]
      · have hE : (x == zs[k]) = true := by simpa using he
        have HE := hide he
        clear he
        go_wp2
        go_ret
        exact ⟨k, .inl ⟨by rw [HE.out]; exact mem_of_at hlt, by omega⟩, by omega, rfl, hb⟩
      · have hE : (x == zs[k]) = false := by simpa using he
        have HE := hide he
        clear he
        go_wp2
        go_roundw
        case rel => exact ⟨k + 1, by omega, by go_num, fun j hj => by
          rcases Nat.lt_or_ge j k with h | h
          · exact HA.out j h
          · obtain rfl : j = k := by omega
            rw [getD_lt hlt]
            exact fun e => HE.out e.symm, hb⟩
        case measure => simp only [intOf]; omega
    · obtain rfl : k = zs.length := by omega
      go_wp2
      go_ret
      exact ⟨-1, .inr ⟨not_mem_of HA.out, rfl⟩, by omega, rfl, hb⟩

theorem contains_any (x : Int) (a : Option Addr) (cap : Nat) (zs : List Int) (w : World) (hi : Ints w a zs) (hn : zs.length ≤ 1048576) :
    Calls Tryz.prog 134 #[.slice a zs.length cap, .int .i64 x] w fun e w' => e = .returned (.bool (hasB zs x)) ∧ Below w.heap.size w w' := by
  by_cases hm : x ∈ zs
  · have HB := hide (hasB_true hm)
    go_enter Tryz.func134, Tryz.ntmps134
    go_wp2_with fail
    refine (index_any _ _ _ _ _ hi hn).mono ?_
    rintro e w' ⟨r, hr, hr2, rfl, hb⟩
    have h0 : 0 ≤ r := by
      rcases hr with ⟨_, h⟩ | ⟨h, _⟩
      · exact h
      · exact absurd hm h
    clear hr hm
    go_wp2
    go_ret
    exact ⟨ret_bool HB.out.symm, hb⟩
  · have HB := hide (hasB_false hm)
    go_enter Tryz.func134, Tryz.ntmps134
    go_wp2_with fail
    refine (index_any _ _ _ _ _ hi hn).mono ?_
    rintro e w' ⟨r, hr, hr2, rfl, hb⟩
    have h0 : r < 0 := by
      rcases hr with ⟨h, _⟩ | ⟨_, h⟩
      · exact absurd h hm
      · omega
    clear hr hm
    go_wp2
    go_ret
    exact ⟨ret_bool (by rw [HB.out]; simp; omega), hb⟩

/-- what InSpace answers -/
def inB (n : Int) (zs : List Int) (x : Int) : Bool := vsB n zs && hasB zs x
theorem inB_false {n : Int} {zs : List Int} {x : Int} (h : vsB n zs = false) : inB n zs x = false := by unfold inB; rw [h]; rfl
theorem inB_true {n : Int} {zs : List Int} {x : Int} (h : vsB n zs = true) : inB n zs x = hasB zs x := by unfold inB; rw [h]; rfl

end Go.Proofs.YtgebplpbnaeckaaGreatDoor
