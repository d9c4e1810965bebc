/- Texts of this seat one behind the other: PtS, CrI, LdM, BkM. Conditions: none. -/
import Derived.Test.YtgebplpbnaeckaaGreatDoorMg04
import Derived.Test.YtgebplpbnaeckaaGreatDoorMg05
import Derived.Test.YtgebplpbnaeckaaGreatDoorMg07

/- PtS: The laws' helpers on slices of parts: equality, marks. -/
namespace Go.Proofs.YtgebplpbnaeckaaGreatDoor
open Go.RowKit Go.Joins

theorem OwnsP.pints {w : World} {base n cap : Nat} {a : Option Addr} {ps : List (Int × Int)} (h : OwnsP w base (.slice a n cap) ps) : PInts w a ps := by
  obtain ⟨a', cap', e, hi⟩ := h.form
  simp only [Value.slice.injEq] at e
  obtain ⟨rfl, _, _⟩ := e
  exact hi
theorem pown_ge {w : World} {base : Nat} {v : Value} {ps : List (Int × Int)} (h : OwnsP w base v ps) : ∀ k, v.ownBlock = some k → base ≤ k ∧ k < w.heap.size := fun k hk => World.ownsRow.lt h k hk
theorem pown_kept {w w' : World} {base : Nat} {v : Value} {ps : List (Int × Int)} {row : Option Nat} (h : OwnsP w base v ps) (hg : w.grownBy w' row) (hne : ∀ k, row = some k → v.ownBlock ≠ some k) : OwnsP w' base v ps := by
  have h' : w.ownsRow base 79 2 v ps.length (pflat ps) := h
  refine World.ownsRow.kept h' hg ?_
  rcases hv : v.ownBlock with _ | g
  · exact .inl rfl
  · right
    intro e
    exact hne g e.symm hv
def pmarks (k : Int) (n : Nat) : List (Int × Int) := (List.range n).map fun (i : Nat) => (k + 2 * (i : Int), k + 2 * (i : Int) + 1)
theorem pmarks_length (k : Int) (n : Nat) : (pmarks k n).length = n := by simp [pmarks]
theorem pmarks_getD (k : Int) (n i : Nat) (h : i < n) : (pmarks k n).getD i (0, 0) = (k + 2 * (i : Int), k + 2 * (i : Int) + 1) := by
  simp [pmarks, List.getD_eq_getElem?_getD, h]
theorem parts_ext {xs ys : List (Int × Int)} (hl : xs.length = ys.length) (h : ∀ j, j < xs.length → xs.getD j (0, 0) = ys.getD j (0, 0)) : xs = ys := by
  refine List.ext_getElem hl fun i h1 h2 => ?_
  have := h i h1
  rwa [pgetD_lt h1, pgetD_lt h2] at this
theorem pflat_set : ∀ (ps : List (Int × Int)) (j : Nat) (c b : Int), j < ps.length → pflat (ps.set j (c, b)) = ((pflat ps).set (j * 2) (.int .i64 c)).set (j * 2 + 1) (.int .i64 b)
  | [], j, _, _, h => by simp at h
  | p :: ps, 0, c, b, _ => rfl
  | p :: ps, j + 1, c, b, h => by
    have ih := pflat_set ps j c b (by simpa using h)
    rw [List.set_cons_succ, pflat_cons, pflat_cons, ih, show (j + 1) * 2 = j * 2 + 1 + 1 from by omega]
    rfl

end Go.Proofs.YtgebplpbnaeckaaGreatDoor

/- CrI: CriticalParts of the program. -/
namespace Go.Proofs.YtgebplpbnaeckaaGreatDoor
open Go.RowKit Go.Joins Go.ChangeMaps Go.MapKept Go.WideShapes
open Go.Maps (Keyed)

/-- the call's own map of parts -/
def OM (b n : Nat) (f : Nat × Nat → Bool) (w : World) : Prop := ∃ D : DataW Unit, w.ownsMap Tryz.prog 79 (plainElem Tryz.prog 4) b n D ∧ MapIs D f ∧ KeysIn D
theorem OM.below {b n : Nat} {f : Nat × Nat → Bool} {w w' : World} (h : OM b n f w) (hb : Below w.heap.size w w') : OM b n f w' := by
  obtain ⟨D, h1, h2, h3⟩ := h
  exact ⟨D, h1.kept (grown_of hb) (by simp), h2, h3⟩
theorem OM.grown {b n : Nat} {f : Nat × Nat → Bool} {w w' : World} {row : Option Nat} (h : OM b n f w) (hg : w.grownBy w' row) (hne : some b ≠ row) : OM b n f w' := by
  obtain ⟨D, h1, h2, h3⟩ := h
  exact ⟨D, h1.kept hg hne, h2, h3⟩
theorem OM.congr {b n : Nat} {f g : Nat × Nat → Bool} {w : World} (h : OM b n f w) (e : ∀ q : Nat × Nat, q.1 < 16 → q.2 < 16 → f q = g q) : OM b n g w := by
  obtain ⟨D, h1, h2, h3⟩ := h
  exact ⟨D, h1, h2.congr e, h3⟩
theorem OM.lt {b n : Nat} {f : Nat × Nat → Bool} {w : World} (h : OM b n f w) : b < w.heap.size := by
  obtain ⟨D, h1, _⟩ := h
  exact h1.lt
theorem OM.made (w : World) : OM w.heap.size 0 (fun _ => false) (w.alloc (.map #[] 0)) := ⟨_, World.ownsMap_made w _ _ _, MapIs.empty, KeysIn.empty⟩
theorem zero_bool (w : World) : (zeroValue 4).run Tryz.prog w = .ok (.bool false) w := by kernel_rfl
theorem OM.look {b n : Nat} {f : Nat × Nat → Bool} {w : World} (h : OM b n f w) {c k : Nat} (hc : c < 16) (hk : k < 16) : (Instr.lookup 137 (.map (some b)) (.agg #[.int .i64 c, .int .i64 k]) false).run Tryz.prog w = .ok (.bool (f (c, k))) w := by
  obtain ⟨D, h1, h2, _⟩ := h
  obtain ⟨x, hx, hD⟩ := lookup_bool h1 part_keyed Tryz.underlying137 Tryz.underlying4 (zero_bool w) (part_key _ _ (wf_16 c hc) (wf_16 k hk))
  rw [hx]
  have e := h2.2 (c, k) hc hk
  rw [hD] at e
  have e2 : x = f (c, k) := by
    have e3 := DataW.lit.inj e
    exact Lit.bool.inj e3
  rw [e2]
theorem dropGreater_om (b n : Nat) (f : Nat × Nat → Bool) (pc pb : Nat) (w : World) (hp1 : pc < 16) (hp2 : pb < 16) (h : OM b n f w) :
    Calls Tryz.prog 102 #[.map (some b), .agg #[.int .i64 pc, .int .i64 pb]] w fun e w' => e = .returned (.tuple #[]) ∧ OM b n (fun q => f q && !gtP (pc, pb) q) w' ∧ w.grownBy w' (some b) := by
  obtain ⟨D, h1, h2, h3⟩ := h
  exact (dropGreater_any b n D f pc pb w hp1 hp2 h1 h2 h3).mono fun e w' ⟨he, hD, hg⟩ => ⟨he, hD, hg⟩
/-- what the map holds when the first k parts have been looked at -/
def seenB (n : Nat) (zs : List Int) (k : Nat) (q : Nat × Nat) : Bool := ((ordL n).take k).contains q && !opn zs q
theorem seen_zero (n : Nat) (zs : List Int) (q : Nat × Nat) : seenB n zs 0 q = false := by unfold seenB; simp
theorem seen_end (n : Nat) (zs : List Int) (q : Nat × Nat) : seenB n zs (ordL n).length q = stillB n zs 0 q := by rw [still_zero]; unfold seenB; rw [List.take_length]
theorem take_mem {n k : Nat} (hk : k < (ordL n).length) (q : Nat × Nat) : ((ordL n).take (k + 1)).contains q = (((ordL n).take k).contains q || decide (q = (ordL n)[k])) := by
  rw [Bool.eq_iff_iff, Bool.or_eq_true, decide_eq_true_iff, List.contains_iff_mem, List.contains_iff_mem, List.take_add_one, List.getElem?_eq_getElem hk, List.mem_append]
  simp only [Option.toList_some, List.mem_singleton]
theorem seen_open {n : Nat} {zs : List Int} {k : Nat} (hk : k < (ordL n).length) (h : opn zs (ordL n)[k] = true) (q : Nat × Nat) : seenB n zs (k + 1) q = seenB n zs k q := by
  unfold seenB
  rw [take_mem hk]
  by_cases e : q = (ordL n)[k]
  · rw [e, h, Bool.not_true, Bool.and_false, Bool.and_false]
  · rw [decide_eq_false e, Bool.or_false]
theorem seen_closed {n : Nat} {zs : List Int} {k : Nat} (hk : k < (ordL n).length) (h : opn zs (ordL n)[k] = false) (q : Nat × Nat) : (if q = (ordL n)[k] then true else seenB n zs k q) = seenB n zs (k + 1) q := by
  unfold seenB
  rw [take_mem hk]
  by_cases e : q = (ordL n)[k]
  · rw [if_pos e, e, h]; simp
  · rw [if_neg e, decide_eq_false e, Bool.or_false]
theorem still_step {n : Nat} {zs : List Int} {k : Nat} (hk : k < (ordL n).length) (h : crB n zs (ordL n)[k] = true) (q : Nat × Nat) : stillB n zs (k + 1) q = (stillB n zs k q && !gtP (ordL n)[k] q) := still_yes hk h
theorem ord_16 {n : Nat} (hn : n ≤ 4) {p : Nat × Nat} (hp : p ∈ ordL n) : p.1 < 16 ∧ p.2 < 16 := by
  have hf := ord_facts hn hp
  have p2 : 2 ^ n ≤ 16 := Nat.pow_le_pow_right (n := 2) (by omega) hn
  have hb : p.2 ≤ p.1 := by rw [← hf.2.1]; exact Nat.and_le_right
  exact ⟨by omega, by omega⟩
set_option maxRecDepth 100000 in
theorem ord_len : range5 (fun n => decide ((ordL n).length ≤ 81)) = true := by decide +kernel
theorem OM.put {b n : Nat} {f : Nat × Nat → Bool} {D : DataW Unit} {w : World} {c k : Nat} (h1 : w.ownsMap Tryz.prog 79 (plainElem Tryz.prog 4) b n (D.put (litP (c : Int) (k : Int)) (.lit (.bool true)))) (h2 : MapIs D f) (h3 : KeysIn D) (hc : c < 16) (hk : k < 16) :
    OM b n (fun q => if q = (c, k) then true else f q) w := ⟨_, h1, h2.put (q := (c, k)) hc hk true, h3.put (q := (c, k)) hc hk _⟩
theorem ofP_at {l : List (Nat × Nat)} {k : Nat} (hk : k < l.length) : (ofP l).getD k (0, 0) = ((l[k].1 : Int), (l[k].2 : Int)) := by
  unfold ofP
  rw [List.getD_eq_getElem?_getD, List.getElem?_map, List.getElem?_eq_getElem hk]
  rfl
theorem ofP_len (l : List (Nat × Nat)) : (ofP l).length = l.length := List.length_map _
/-- the critical parts among the first k -/
def tookP (n : Nat) (zs : List Int) (k : Nat) : List (Nat × Nat) := ((ordL n).take k).filter (crB n zs)
theorem took_yes {n : Nat} {zs : List Int} {k : Nat} (hk : k < (ordL n).length) (h : crB n zs (ordL n)[k] = true) : tookP n zs (k + 1) = tookP n zs k ++ [(ordL n)[k]] := by
  unfold tookP
  rw [filter_takeP n zs hk, if_pos h]
theorem took_no {n : Nat} {zs : List Int} {k : Nat} (hk : k < (ordL n).length) (h : crB n zs (ordL n)[k] = false) : tookP n zs (k + 1) = tookP n zs k := by
  unfold tookP
  rw [filter_takeP n zs hk, if_neg (by rw [h]; simp), List.append_nil]
theorem took_all (n : Nat) (zs : List Int) : tookP n zs (ordL n).length = critL n zs := by
  unfold tookP critL
  rw [List.take_length]
theorem took_len (n : Nat) (zs : List Int) (k : Nat) : (tookP n zs k).length ≤ k := by
  unfold tookP
  exact Nat.le_trans (List.length_filter_le _ _) (List.length_take_le _ _)
/-- the map as the first loop has it -/
def SeenI (W : World) (N : Nat) (zs : List Int) (k : Nat) (wq : World) : Prop := Below W.heap.size W wq ∧ OM W.heap.size k (seenB N zs k) wq
/-- the map and the list as the second loop has them -/
def TookI (W : World) (N : Nat) (zs : List Int) (k : Nat) (v : Value) (wq : World) : Prop :=
  Below W.heap.size W wq ∧ OM W.heap.size 81 (stillB N zs k) wq ∧ OwnsP wq (W.heap.size + 1) v (ofP (tookP N zs k))
theorem OM.more {b n m : Nat} {f : Nat × Nat → Bool} {w : World} (h : OM b n f w) (hm : n ≤ m) : OM b m f w := by
  obtain ⟨D, h1, h2⟩ := h
  exact ⟨D, h1.mono hm, h2⟩
theorem implValid_was (n : Int) (a : Option Addr) (cap : Nat) (zs : List Int) (w : World) (r : Bool) (hi : Ints w a zs) (hn : zs.length ≤ 1048576) (hr : vsB n zs = r) :
    Calls Tryz.prog 99 #[.agg #[.int .i64 n, .slice a zs.length cap]] w fun e w' => e = .returned (.bool r) ∧ Below w.heap.size w w' := by
  subst hr
  exact implValidSpace_any n a cap zs w hi hn
theorem openAsker1_was (n c b : Int) (a : Option Addr) (cap g : Nat) (zs : List Int) (w : World) (r : Bool) (hi : Ints w a zs) (hn : zs.length ≤ 1048576) (bx : Box w g n a zs.length cap) (hr : ∀ x ∈ zs, 0 ≤ x ∧ x ≤ 15) (hc : 0 ≤ c ∧ c ≤ 15) (hb : 0 ≤ b) (ho : openB zs c b = r) :
    Calls Tryz.prog 123 #[.agg #[.int .i64 c, .int .i64 b], .pointer (some ⟨g, 0, none⟩)] w fun e w' => e = .returned (.bool r) ∧ Below w.heap.size w w' := by
  subst ho
  exact openAsker1_any n c b a cap g zs w hi hn bx hr hc hb

set_option maxHeartbeats 4000000 in
set_option maxRecDepth 100000 in
theorem implCriticalParts_any (n : Int) (a : Option Addr) (cap : Nat) (zs : List Int) (w : World) (hi : Ints w a zs) (hn : zs.length ≤ 1048576) :
    Calls Tryz.prog 74 #[.agg #[.int .i64 n, .slice a zs.length cap]] w (GivesP (crR n zs) w) := by
  obtain ⟨j0, hj0, hy0, hy1, hy2⟩ := info_parts info_part
  have S0 := SV.new w n a zs cap none [] 37 hi (Ints.nil _ _)
  clear hi
  obtain ⟨⟨_, c0, c1⟩, _⟩ := S0.pair
  by_cases hv : vsB n zs = false
  · have HV := hide (crR_no hv)
    have HVV := hide hv
    clear hv
    go_enter Tryz.func74, Tryz.ntmps74
    go_wp2_with fail
    refine (implValid_was _ _ _ _ _ false S0.2.1 hn HVV.out).mono ?_
    rintro e w1 ⟨rfl, hb⟩
    go_wp2
    go_ret
    exact ⟨_, rfl, by rw [HV.out]; exact World.ownsRow_nil _ _ _ _, (S0.below hb).2.2.2⟩
  · have hv : vsB n zs = true := by simpa using hv
    have HVV := hide hv
    have HV := hide (crR_yes hv)
    have hV := valid_of hv
    have HR := hide (valid_range hV)
    have hN4 := hV.1
    obtain ⟨N, hN⟩ : ∃ N : Nat, n = (N : Int) := ⟨n.toNat, by omega⟩
    subst hN
    have hN : 1 ≤ N ∧ N ≤ 4 := by omega
    have hol : (ordL N).length ≤ 81 := by simpa using range5_of ord_len hN.2
    have HOL := hide hol
    have HO := hide (ofP_len (ordL N))
    have hmm := fun w => @run_makeMap Tryz.prog 137 w
    clear hV hN4 hv hol
    go_enter Tryz.func74, Tryz.ntmps74
    go_wp2_with fail
    refine (implValid_was _ _ _ _ _ true S0.2.1 hn HVV.out).mono ?_
    rintro e w1 ⟨rfl, hb⟩
    have S1 := S0.below hb
    clear c0 c1 S0 hb
    obtain ⟨⟨_, c0, c1⟩, _⟩ := S1.pair
    go_wp2_with fail
    refine (partsInOrder_any N _ hN).mono ?_
    rintro e w2 ⟨v, rfl, own2, hb2⟩
    obtain ⟨av, cv, rfl, _⟩ := own2.form
    have S2 := S1.below hb2
    clear c0 c1 S1 hb2
    obtain ⟨⟨_, c0, c1⟩, _⟩ := S2.pair
    go_wp2_with fail
    refine (openAsker_any _ _ _ _ _).mono ?_
    rintro e w3 ⟨rfl, rfl⟩
    have bel := bel1 w2 (.cells #[.int .i64 (N : Int), .slice a zs.length cap] 37)
    have own3 := own2.below bel
    have S3 := S2.below bel
    have bx3 := Box.new w2 (N : Int) a zs.length cap 37
    obtain ⟨W, hW⟩ : ∃ W : World, W = w2.alloc (.cells #[.int .i64 (N : Int), .slice a zs.length cap] 37) := ⟨_, rfl⟩
    rw [← hW] at own3 S3 bx3 ⊢
    have hwW := hide (show w.heap.size ≤ W.heap.size from S3.2.2.2.size)
    have M0 : SeenI W N zs 0 (W.alloc (.map #[] 0)) := ⟨bel1 W _, (OM.made W).congr (fun q _ _ => (seen_zero N zs q).symm)⟩
    have HW := hide hW
    have HS := hide S3
    have HB := hide bx3
    have HOW := hide own3
    clear bel own2 own3 S2 S3 bx3 c0 c1 hW
    go_wp2_with fail
    go_loopw [22] (fun i wr => ∃ k : Nat, k ≤ (ofP (ordL N)).length ∧ i = .int .i64 k ∧ SeenI W N zs k wr) (fun i _ => (ofP (ordL N)).length - (intOf i).toNat)
    case atStart => exact ⟨0, Nat.zero_le _, rfl, M0⟩
    case round =>
      clear M0
      obtain ⟨k, hk, rfl, hs⟩ := hrel
      have hp := (HOW.out.below hs.1).pints
      by_cases hlt : k < (ofP (ordL N)).length
      · have hlt' : k < (ordL N).length := by rw [← HO.out]; exact hlt
        have hk81 : k < 81 := by have := HOL.out; omega
        obtain ⟨bb, off, rfl, hbl, hc⟩ := hp (by omega)
        obtain ⟨h1, h2⟩ := hc k hlt
        rw [ofP_at hlt'] at h1 h2
        have h16 := ord_16 hN.2 (List.getElem_mem hlt')
        obtain ⟨pc, hpc⟩ : ∃ pc, pc = (ordL N)[k].1 := ⟨_, rfl⟩
        obtain ⟨pb, hpb⟩ : ∃ pb, pb = (ordL N)[k].2 := ⟨_, rfl⟩
        have hpp : (ordL N)[k] = (pc, pb) := by rw [hpc, hpb]
        rw [← hpc, ← hpb] at h16
        simp only [← hpc] at h1
        simp only [← hpb] at h2
        have HPP := hide hpp
        have b5 := bel1 wr (.cells #[.int .i64 (pc : Int), .int .i64 (pb : Int)] 79)
        have H5 := hide (hs.1.trans (b5.mono hs.1.size))
        have M5 := hide (hs.2.below b5)
        have px := PBox.new wr (pc : Int) (pb : Int) 79
        have PX := hide px
        obtain ⟨_, p0, p1⟩ := px
        have h15 : Hid (((0 : Int) ≤ (pc : Int) ∧ (pc : Int) ≤ 15) ∧ (0 : Int) ≤ (pb : Int)) := ⟨⟨by omega, by omega⟩, by omega⟩
        have HLT' := hide hlt'
        have hnn : k < maxLen := by have := HOL.out; have := HO.out; unfold maxLen; omega
        clear hc hp hpc hpb hpp b5
        cases hop : opn zs (pc, pb) with
        | true =>
          have hop' : Hid (openB zs (pc : Int) (pb : Int) = true) := hop
          have HOP : Hid (opn zs (ordL N)[k] = true) := (congrArg (opn zs) HPP.out).trans hop
          have HS5 := hide hs
          clear hop hs
          go_wp2_with fail
          refine (openAsker1_was (N : Int) _ _ a cap _ zs _ true (HS.out.2.1.below H5.out) hn (HB.out.below H5.out) HR.out h15.out.1 h15.out.2 hop'.out).mono ?_
          rintro e w6 ⟨rfl, b6⟩
          have H6 : Hid (SeenI W N zs (k + 1) w6) := ⟨H5.out.trans (b6.mono H5.out.size), ((M5.out.below b6).more (Nat.le_succ k)).congr (fun q _ _ => (seen_open HLT'.out HOP.out q).symm)⟩
          go_wp2
          go_roundw
          case rel => exact ⟨k + 1, by omega, by go_num, H6.out⟩
          case measure => simp only [intOf]; omega
        | false =>
          have hop' : Hid (openB zs (pc : Int) (pb : Int) = false) := hop
          have HOP : Hid (opn zs (ordL N)[k] = false) := (congrArg (opn zs) HPP.out).trans hop
          clear hop hs
          go_wp2_with fail
          refine (openAsker1_was (N : Int) _ _ a cap _ zs _ false (HS.out.2.1.below H5.out) hn (HB.out.below H5.out) HR.out h15.out.1 h15.out.2 hop'.out).mono ?_
          rintro e w6 ⟨rfl, b6⟩
          obtain ⟨D, hown6, hm6, hk6⟩ := M5.out.below b6
          have H6 := hide (H5.out.trans (b6.mono H5.out.size))
          obtain ⟨_, u0, u1⟩ := PX.out.below b6
          have HM6 := hide hm6
          have HK6 := hide hk6
          clear p0 p1 b6 hm6 hk6
          go_wp2_with (first
            | (at_mapUpdate; refine wpList_mapUpdate_own _ rfl _ _ _ 137 rfl 79 4 part_keyed Tryz.underlying137 _ W.heap.size k D rfl hown6 hnn _ _ _ rfl rfl (part_key _ _ (wf_16 pc h16.1) (wf_16 pb h16.2)) (.lit (.bool true)) [] (plainElem_bool Tryz.underlying4 true) ?_; intro w7 hown7 hgrow7)
            | go_in)
          have H7 : Hid (SeenI W N zs (k + 1) w7) := ⟨bgrown H6.out hgrow7 H6.out.size (fun j hj => by cases hj; exact Nat.le_refl _), (OM.put hown7 HM6.out HK6.out h16.1 h16.2).congr (fun q _ _ => (congrArg (fun z => if q = z then true else seenB N zs k q) HPP.out.symm).trans (seen_closed HLT'.out HOP.out q))⟩
          clear hown6 hown7 hgrow7 u0 u1
          go_wp2
          go_roundw
          case rel => exact ⟨k + 1, by omega, by go_num, H7.out⟩
          case measure => simp only [intOf]; omega
      · obtain rfl : k = (ofP (ordL N)).length := by omega
        have T0 : TookI W N zs 0 (.slice none 0 0) wr := ⟨hs.1, (hs.2.more (by rw [HO.out]; exact HOL.out)).congr (fun q _ _ => by rw [HO.out]; exact seen_end N zs q), World.ownsRow_nil _ _ _ _⟩
        clear hs hp hmm
        go_wp2_with fail
        go_loopw [8, 35] (fun v i wr => ∃ k : Nat, k ≤ (ofP (ordL N)).length ∧ i = .int .i64 k ∧ TookI W N zs k v wr) (fun _ i _ => (ofP (ordL N)).length - (intOf i).toNat)
        case atStart => exact ⟨0, Nat.zero_le _, rfl, T0⟩
        case round =>
          clear T0
          obtain ⟨k, hk, rfl, hs⟩ := hrel
          have hp := (HOW.out.below hs.1).pints
          obtain ⟨va, vc, rfl, _⟩ := hs.2.2.form
          by_cases hlt : k < (ofP (ordL N)).length
          · have hlt' : k < (ordL N).length := by rw [← HO.out]; exact hlt
            have hk81 : k < 81 := by have := HOL.out; omega
            obtain ⟨bb, off, rfl, hbl, hc⟩ := hp (by omega)
            obtain ⟨h1, h2⟩ := hc k hlt
            rw [ofP_at hlt'] at h1 h2
            have h16 := ord_16 hN.2 (List.getElem_mem hlt')
            obtain ⟨pc, hpc⟩ : ∃ pc, pc = (ordL N)[k].1 := ⟨_, rfl⟩
            obtain ⟨pb, hpb⟩ : ∃ pb, pb = (ordL N)[k].2 := ⟨_, rfl⟩
            have hpp : (ordL N)[k] = (pc, pb) := by rw [hpc, hpb]
            rw [← hpc, ← hpb] at h16
            simp only [← hpc] at h1
            simp only [← hpb] at h2
            have HPP := hide hpp
            have b5 := bel1 wr (.cells #[.int .i64 (pc : Int), .int .i64 (pb : Int)] 79)
            have H5 := hide (hs.1.trans (b5.mono hs.1.size))
            have hlook := (hs.2.1.below b5).look h16.1 h16.2
            have M5 := hide (hs.2.1.below b5)
            have px := PBox.new wr (pc : Int) (pb : Int) 79
            have PX := hide px
            obtain ⟨_, p0, p1⟩ := px
            have HLT' := hide hlt'
            have hst : stillB N zs k (pc, pb) = crB N zs (pc, pb) := (congrArg (stillB N zs k) hpp.symm).trans ((still_turn hN.2 (zs := zs) hlt').trans (congrArg (crB N zs) hpp))
            rw [hst] at hlook
            cases hcr : crB N zs (pc, pb) with
            | false =>
              have HCR : Hid (crB N zs (ordL N)[k] = false) := (congrArg (crB N zs) HPP.out).trans hcr
              have H6 : Hid (TookI W N zs (k + 1) (.slice va (ofP (tookP N zs k)).length vc) (wr.alloc (.cells #[.int .i64 (pc : Int), .int .i64 (pb : Int)] 79))) :=
                ⟨H5.out, M5.out.congr (fun q _ _ => (still_no HLT'.out HCR.out).symm), by rw [took_no HLT'.out HCR.out]; exact hs.2.2.below b5⟩
              rw [hcr] at hlook
              clear hc hp hpc hpb hpp b5 hst hcr hs
              go_wp2
              go_roundw
              case rel => exact ⟨k + 1, by omega, by go_num, H6.out⟩
              case measure => simp only [intOf]; omega
            | true =>
              have HCR : Hid (crB N zs (ordL N)[k] = true) := (congrArg (crB N zs) HPP.out).trans hcr
              rw [hcr] at hlook
              have hop := hs.2.2.below b5
              have hop' : (wr.alloc (.cells #[.int .i64 (pc : Int), .int .i64 (pb : Int)] 79)).ownsRow (W.heap.size + 1) 79 2 (.slice va (ofP (tookP N zs k)).length vc) (ofP (tookP N zs k)).length (pflat (ofP (tookP N zs k))) := hop
              have hol : (ofP (tookP N zs k)).length ≤ 81 := by
                rw [ofP_len]
                have := took_len N zs k
                have := HOL.out
                omega
              have hws := H5.out.size
              have hwb := HOW.out
              have HS' := hide hs
              have hvl := hide (fun j hj => (pown_ge hs.2.2 j hj))
              have hWlt : W.heap.size + 1 ≤ wr.heap.size := hs.2.1.lt
              clear hc hp hpc hpb hpp b5 hst hcr hs hwb
              go_wp2_with (first
                | (at_builtin; refine wpList_append_own _ rfl _ _ 71 rfl (W.heap.size + 1) 79 j0 (.agg #[.int .i64 0, .int .i64 0]) 2 16 Tryz.underlying71 hj0 hy0 hy1 hy2 rfl (by decide) _ _ _ rfl (hop'.alloc _) ⟨wr.heap.size + 1, 0, none⟩ 1 1 [.int .i64 (pc : Int), .int .i64 (pb : Int)] rfl rfl (by have hh := World.news_of_block (cs := #[.int .i64 (pc : Int), .int .i64 (pb : Int)]) (t := 79) (fr := (0, 0)) (heap_alloc_new (wr.alloc (.cells #[.int .i64 (pc : Int), .int .i64 (pb : Int)] 79)) _); simp only [World.size_alloc] at hh; exact hh) (by intro u hu; simp at hu; rcases hu with rfl | rfl <;> rfl) (by unfold maxLen; omega) (by first | omega | (simp; omega)) (by first | omega | (simp; omega)) ?_)
                | fail)
              intro v' w6 hown' hgrow _
              have hHop : OwnsP wr (W.heap.size + 1) (.slice va (ofP (tookP N zs k)).length vc) (ofP (tookP N zs k)) := HS'.out.2.2
              have hrow : ∀ j, (Value.slice va (ofP (tookP N zs k)).length vc).ownBlock = some j → W.heap.size + 1 ≤ j ∧ j < wr.heap.size := fun j hj => hvl.out j hj
              have h7a := (bel1 (wr.alloc (.cells #[.int .i64 (pc : Int), .int .i64 (pb : Int)] 79)) (.cells #[.int .i64 (pc : Int), .int .i64 (pb : Int)] 79))
              have M7 := hide ((M5.out.below h7a).grown hgrow (fun e => by have := hrow _ e.symm; omega))
              have P7 := hide ((PX.out.below h7a).grown hgrow (fun e => by have := hrow _ e.symm; omega))
              have B7 := hide (bgrown (H5.out.trans (h7a.mono H5.out.size)) hgrow (H5.out.trans (h7a.mono H5.out.size)).size (fun j hj => by have := hrow j hj; omega))
              have V7 : OwnsP w6 (W.heap.size + 1) v' (ofP (tookP N zs k) ++ [((pc : Int), (pb : Int))]) := OwnsP.push hown'
              have e7 : ofP (tookP N zs k) ++ [((pc : Int), (pb : Int))] = ofP (tookP N zs (k + 1)) := by
                rw [took_yes HLT'.out HCR.out]
                unfold ofP
                rw [List.map_append]
                exact congrArg (fun z : Nat × Nat => _ ++ [((z.1 : Int), (z.2 : Int))]) HPP.out.symm
              rw [e7] at V7
              obtain ⟨qa, qc, rfl, _⟩ := V7.form
              have HV7 := hide V7
              obtain ⟨_, r0, r1⟩ := P7.out
              clear hop hop' hown' hgrow V7 e7 h7a hHop p0 p1 hlook
              go_wp2_with fail
              refine (dropGreater_om W.heap.size 81 _ pc pb _ h16.1 h16.2 M7.out).mono ?_
              rintro e w8 ⟨rfl, M8, g8⟩
              have H8 : Hid (TookI W N zs (k + 1) (.slice qa (ofP (tookP N zs (k + 1))).length qc) w8) :=
                ⟨bgrown B7.out g8 B7.out.size (fun j hj => by cases hj; exact Nat.le_refl _), M8.congr (fun q _ _ => ((still_step HLT'.out HCR.out q).trans (congrArg (fun z => stillB N zs k q && !gtP z q) HPP.out)).symm), HV7.out.other g8 (fun g e => by cases e; exact Nat.lt_succ_self _)⟩
              clear M8 g8 r0 r1
              go_wp2
              go_roundw
              case rel => exact ⟨k + 1, by omega, by go_num, H8.out⟩
              case measure => simp only [intOf]; omega
          · obtain rfl : k = (ofP (ordL N)).length := by omega
            have HT := hide hs
            clear hs hp
            go_wp2
            go_ret
            refine ⟨_, rfl, ?_, bnext HS.out.2.2.2 (HT.out.1.mono (Nat.le_refl _))⟩
            have e1 : crR (N : Int) zs = ofP (tookP N zs (ofP (ordL N)).length) := by rw [HV.out, Int.toNat_natCast, HO.out, took_all]
            rw [e1]
            exact HT.out.2.2.le (Nat.le_succ_of_le hwW.out)
theorem crR_81 (n : Int) (zs : List Int) : (crR n zs).length ≤ 81 := by
  rcases Bool.eq_false_or_eq_true (vsB n zs) with h | h
  · have hV := valid_of h
    have hN := hV.1
    rw [crR_yes h, ofP_len]
    have h1 : (ordL n.toNat).length ≤ 81 := by simpa using range5_of ord_len (n := n.toNat) (by omega)
    exact Nat.le_trans (List.length_filter_le _ _) h1
  · rw [crR_no h]
    simp
theorem crR_len (n : Int) (zs : List Int) : (crR n zs).length ≤ 1048576 := Nat.le_trans (crR_81 n zs) (by omega)
end Go.Proofs.YtgebplpbnaeckaaGreatDoor

/- LdM: Leads: plain mathematics, and rows of leads in memory. -/
namespace Go.Proofs.YtgebplpbnaeckaaGreatDoor
open Go.RowKit Go.Joins

def ci (l : List Nat) : List Int := l.map fun (x : Nat) => (x : Int)
theorem ci_len (l : List Nat) : (ci l).length = l.length := List.length_map _
theorem ci_at {l : List Nat} {k : Nat} (hk : k < l.length) : (ci l).getD k 0 = (l.getD k 0 : Nat) := by
  unfold ci
  rw [List.getD_eq_getElem?_getD, List.getElem?_map, List.getD_eq_getElem?_getD, List.getElem?_eq_getElem hk]
  rfl
theorem ci_set (l : List Nat) (k y : Nat) : ci (l.set k y) = (ci l).set k (y : Int) := by unfold ci; rw [List.map_set]
def upd (r : List Nat) (f t : Nat) : List Nat := r.set f (r.getD f 0 ||| 2 ^ t)
/-- the place of the answer of a part to an issue, and that of the other answer -/
def plc (m : Nat × Nat) (j : Nat) : Nat := 2 * j + bitN m.2 j
def opp (m : Nat × Nat) (k : Nat) : Nat := 2 * k + 1 - bitN m.2 k
def condK (m : Nat × Nat) (j k : Nat) : Bool := (j != k) && ((bitN m.1 j == 1) && (bitN m.1 k == 1))
def stK (m : Nat × Nat) (j kk : Nat) (r : List Nat) : List Nat := (List.range kk).foldl (fun r k => if condK m j k = true then upd r (plc m j) (opp m k) else r) r
def stJ (N : Nat) (m : Nat × Nat) (jj : Nat) (r : List Nat) : List Nat := (List.range jj).foldl (fun r j => stK m j N r) r
def stI (N : Nat) (L : List (Nat × Nat)) (ii : Nat) : List Nat := (L.take ii).foldl (fun r m => stJ N m N r) (List.replicate (2 * N) 0)
theorem stK_yes {m : Nat × Nat} {j k : Nat} {r : List Nat} (h : condK m j k = true) : stK m j (k + 1) r = upd (stK m j k r) (plc m j) (opp m k) := by
  unfold stK; rw [List.range_succ, List.foldl_append]; simp [h]
theorem stK_no {m : Nat × Nat} {j k : Nat} {r : List Nat} (h : condK m j k = false) : stK m j (k + 1) r = stK m j k r := by
  unfold stK; rw [List.range_succ, List.foldl_append]; simp [h]
theorem stJ_succ (N : Nat) (m : Nat × Nat) (j : Nat) (r : List Nat) : stJ N m (j + 1) r = stK m j N (stJ N m j r) := by
  unfold stJ; rw [List.range_succ, List.foldl_append]; rfl
theorem stI_succ {N : Nat} {L : List (Nat × Nat)} {i : Nat} (hi : i < L.length) : stI N L (i + 1) = stJ N L[i] N (stI N L i) := by
  unfold stI; rw [List.take_add_one, List.getElem?_eq_getElem hi, List.foldl_append]; rfl
/-- the places of a part's answers -/
def PL (N : Nat) (m : Nat × Nat) : List Nat := ((List.range N).filter fun j => bitN m.1 j == 1).map (plc m)
def prV (P : List Nat) (f vv : Nat) (r : List Nat) : List Nat := (P.take vv).foldl (fun r o => if (f != o) = true then upd r f (o ^^^ 1) else r) r
def prU (P : List Nat) (uu : Nat) (r : List Nat) : List Nat := (P.take uu).foldl (fun r f => prV P f P.length r) r
theorem prV_yes {P : List Nat} {f v : Nat} {r : List Nat} (hv : v < P.length) (h : (f != P[v]) = true) : prV P f (v + 1) r = upd (prV P f v r) f (P[v] ^^^ 1) := by
  unfold prV; rw [List.take_add_one, List.getElem?_eq_getElem hv, List.foldl_append]
  simp only [Option.toList_some, List.foldl_cons, List.foldl_nil]
  rw [if_pos h]
theorem prV_no {P : List Nat} {f v : Nat} {r : List Nat} (hv : v < P.length) (h : (f != P[v]) = false) : prV P f (v + 1) r = prV P f v r := by
  unfold prV; rw [List.take_add_one, List.getElem?_eq_getElem hv, List.foldl_append]
  simp only [Option.toList_some, List.foldl_cons, List.foldl_nil]
  rw [if_neg (by rw [h]; simp)]
theorem prU_succ {P : List Nat} {u : Nat} {r : List Nat} (hu : u < P.length) : prU P (u + 1) r = prV P P[u] P.length (prU P u r) := by
  unfold prU; rw [List.take_add_one, List.getElem?_eq_getElem hu, List.foldl_append]; rfl
theorem foldl_same {α β : Type} {f g : β → α → β} : ∀ (l : List α) (b : β), (∀ b, ∀ a ∈ l, f b a = g b a) → l.foldl f b = l.foldl g b
  | [], _, _ => rfl
  | a :: l, b, h => by rw [List.foldl_cons, List.foldl_cons, h b a (by simp)]; exact foldl_same l _ fun b x hx => h b x (by simp [hx])
theorem foldl_idle {α β : Type} {f : β → α → β} : ∀ (l : List α) (b : β), (∀ b, ∀ a ∈ l, f b a = b) → l.foldl f b = b
  | [], _, _ => rfl
  | a :: l, b, h => by rw [List.foldl_cons, h b a (by simp)]; exact foldl_idle l _ fun b x hx => h b x (by simp [hx])
theorem foldl_inv {α β : Type} {f : β → α → β} (T : β → Prop) : ∀ (l : List α) (b : β), (∀ b, ∀ a ∈ l, T b → T (f b a)) → T b → T (l.foldl f b)
  | [], _, _, hb => hb
  | a :: l, b, h, hb => by rw [List.foldl_cons]; exact foldl_inv T l _ (fun b x hx => h b x (by simp [hx])) (h b a (by simp) hb)
theorem opp_fin : ∀ k : Fin 4, ∀ b : Fin 2, (2 * k.val + b.val) ^^^ 1 = 2 * k.val + 1 - b.val := by decide +kernel
theorem plc_opp (m : Nat × Nat) {k : Nat} (hk : k < 4) : plc m k ^^^ 1 = opp m k := by
  have hb := bitN_le m.2 k
  exact opp_fin ⟨k, hk⟩ ⟨bitN m.2 k, by omega⟩
theorem plc_ne {m : Nat × Nat} {j k : Nat} : (plc m j != plc m k) = (j != k) := by
  have h1 := bitN_le m.2 j
  have h2 := bitN_le m.2 k
  rw [Bool.eq_iff_iff, bne_iff_ne, bne_iff_ne]
  unfold plc
  constructor
  · intro h e
    subst e
    exact h rfl
  · intro h e
    omega
theorem pr_eq {N : Nat} (hN : N ≤ 4) (m : Nat × Nat) (r : List Nat) : prU (PL N m) (PL N m).length r = stJ N m N r := by
  unfold prU stJ
  rw [List.take_length]
  have hP : PL N m = ((List.range N).filter fun j => bitN m.1 j == 1).map (plc m) := rfl
  have hV : ∀ f r, prV (PL N m) f (PL N m).length r = (List.range N).foldl (fun r k => if (bitN m.1 k == 1) = true then (if (f != plc m k) = true then upd r f (plc m k ^^^ 1) else r) else r) r := fun f r => by
    unfold prV
    rw [List.take_length, hP, List.foldl_map, List.foldl_filter]
  rw [hP, List.foldl_map, List.foldl_filter, ← hP]
  refine foldl_same _ _ fun r j hj => ?_
  cases hb : (bitN m.1 j == 1) with
  | false =>
    rw [if_neg (by simp)]
    unfold stK
    refine (foldl_idle _ _ fun r k _ => ?_).symm
    rw [if_neg]
    unfold condK
    rw [hb]
    simp
  | true =>
    rw [if_pos rfl, hV]
    unfold stK
    refine foldl_same _ _ fun r k hk => ?_
    have hk4 : k < 4 := by have := List.mem_range.1 hk; omega
    unfold condK
    rw [plc_ne, plc_opp m hk4, hb]
    cases (bitN m.1 k == 1) <;> cases (j != k) <;> rfl
/-- rows of leads -/
def RB (K : Nat) (r : List Nat) : Prop := r.length = K ∧ ∀ x ∈ r, x < 256
theorem RB.at {K : Nat} {r : List Nat} (h : RB K r) (k : Nat) : r.getD k 0 < 256 := by
  by_cases hk : k < r.length
  · rw [List.getD_eq_getElem?_getD, List.getElem?_eq_getElem hk]
    exact h.2 _ (List.getElem_mem hk)
  · rw [List.getD_eq_getElem?_getD, List.getElem?_eq_none (by omega)]
    decide
theorem RB.set {K : Nat} {r : List Nat} (h : RB K r) {f y : Nat} (hy : y < 256) : RB K (r.set f y) := by
  refine ⟨by rw [List.length_set]; exact h.1, fun x hx => ?_⟩
  rcases List.mem_or_eq_of_mem_set hx with h1 | h1
  · exact h.2 x h1
  · rw [h1]; exact hy
theorem or_256 {a b : Nat} (ha : a < 256) (hb : b < 256) : a ||| b < 256 := Nat.or_lt_two_pow (n := 8) ha hb
theorem pow_256 {t : Nat} (ht : t < 8) : 2 ^ t < 256 := by
  have : 2 ^ t ≤ 2 ^ 7 := Nat.pow_le_pow_right (by omega) (by omega)
  omega
theorem RB.upd {K : Nat} {r : List Nat} (h : RB K r) {f t : Nat} (ht : t < 8) : RB K (upd r f t) := h.set (or_256 (h.at f) (pow_256 ht))
theorem opp_lt (m : Nat × Nat) {N k : Nat} (hk : k < N) : opp m k < 2 * N := by
  have := bitN_le m.2 k
  unfold opp; omega
theorem plc_lt (m : Nat × Nat) {N k : Nat} (hk : k < N) : plc m k < 2 * N := by
  have := bitN_le m.2 k
  unfold plc; omega
theorem RB.stK {K N : Nat} (hN : N ≤ 4) {m : Nat × Nat} {j kk : Nat} (hk : kk ≤ N) {r : List Nat} (h : RB K r) : RB K (stK m j kk r) :=
  foldl_inv (RB K) _ _ (fun r k hkm hr => by
    split
    · exact hr.upd (by have := opp_lt m (N := N) (k := k) (by have := List.mem_range.1 hkm; omega); omega)
    · exact hr) h
theorem RB.stJ {K N : Nat} (hN : N ≤ 4) {m : Nat × Nat} {jj : Nat} {r : List Nat} (h : RB K r) : RB K (stJ N m jj r) :=
  foldl_inv (RB K) _ _ (fun _ _ _ hr => hr.stK hN (Nat.le_refl _)) h
theorem RB.stI {N : Nat} (hN : N ≤ 4) (L : List (Nat × Nat)) (ii : Nat) : RB (2 * N) (stI N L ii) :=
  foldl_inv (RB (2 * N)) _ _ (fun _ _ _ hr => hr.stJ hN) ⟨by simp, fun x hx => by rw [List.eq_of_mem_replicate hx]; omega⟩
/-- one step of following leads -/
def clS (r : List Nat) (k i : Nat) : List Nat := if bitN (r.getD i 0) k = 1 then r.set i (r.getD i 0 ||| r.getD k 0) else r
def clI (k ii : Nat) (r : List Nat) : List Nat := (List.range ii).foldl (fun r i => clS r k i) r
def clK (K kk : Nat) (r : List Nat) : List Nat := (List.range kk).foldl (fun r k => clI k K r) r
theorem clI_succ (k i : Nat) (r : List Nat) : clI k (i + 1) r = clS (clI k i r) k i := by
  unfold clI; rw [List.range_succ, List.foldl_append]; rfl
theorem clK_succ (K k : Nat) (r : List Nat) : clK K (k + 1) r = clI k K (clK K k r) := by
  unfold clK; rw [List.range_succ, List.foldl_append]; rfl
theorem RB.clS {K : Nat} {r : List Nat} (h : RB K r) (k i : Nat) : RB K (clS r k i) := by
  unfold YtgebplpbnaeckaaGreatDoor.clS
  split
  · exact h.set (or_256 (h.at i) (h.at k))
  · exact h
theorem RB.clI {K : Nat} {r : List Nat} (h : RB K r) (k ii : Nat) : RB K (clI k ii r) := foldl_inv (RB K) _ _ (fun _ _ _ hr => hr.clS _ _) h
theorem RB.clK {K : Nat} {r : List Nat} (h : RB K r) (kk : Nat) : RB K (clK K kk r) := foldl_inv (RB K) _ _ (fun _ _ _ hr => hr.clI _ _) h
/-- what LeadsOf answers -/
def ldR (n : Int) (zs : List Int) : List Nat := if vsB n zs = true then clK (2 * n.toNat) (2 * n.toNat) (stI n.toNat (critL n.toNat zs) (critL n.toNat zs).length) else []
theorem ldR_no {n : Int} {zs : List Int} (h : vsB n zs = false) : ldR n zs = [] := by unfold ldR; rw [if_neg (by rw [h]; simp)]
theorem ldR_yes {N : Nat} {zs : List Int} (h : vsB (N : Int) zs = true) : ldR (N : Int) zs = clK (2 * N) (2 * N) (stI N (critL N zs) (critL N zs).length) := by
  unfold ldR; rw [if_pos h, Int.toNat_natCast]

/-- rows of leads in a block, all else as in w2 -/
def LDs (w2 : World) (B0 K : Nat) (r : List Nat) (wr : World) : Prop :=
  wr.ownsRow B0 3 1 (.slice (some ⟨B0, 0, none⟩) K K) K ((ci r).map (Value.int .i64)) ∧ w2.grownBy wr (some B0) ∧ RB K r
theorem LDs.store {w2 wr : World} {B0 K f y : Nat} {r : List Nat} (h : LDs w2 B0 K r wr) (hy : y < 256) : LDs w2 B0 K (r.set f y) (wr.setCell ⟨B0, f, none⟩ (.int .i64 (y : Int))) := by
  refine ⟨?_, gtrans h.2.1 (h.1.stored f _).2, h.2.2.set hy⟩
  rw [ci_set, List.map_set]
  exact (h.1.stored f _).1
theorem LDs.drew {w2 wr : World} {B0 K : Nat} {r : List Nat} (h : LDs w2 B0 K r wr) : LDs w2 B0 K r wr.drew := ⟨h.1, ⟨h.2.1.os, h.2.1.tape, h.2.1.output, h.2.1.size, h.2.1.block⟩, h.2.2⟩
theorem LDs.at {w2 wr : World} {B0 K f : Nat} {r : List Nat} (h : LDs w2 B0 K r wr) (hf : f < K) : wr.cell? ⟨B0, f, none⟩ = some (.int .i64 (r.getD f 0 : Nat)) ∧ wr.frozen? ⟨B0, f, none⟩ = false := by
  have h1 := h.1.cellAt f (by omega)
  have hl : f < r.length := by rw [h.2.2.1]; exact hf
  have e : ((ci r).map (Value.int .i64))[f]? = some (.int .i64 (r.getD f 0 : Nat)) := by
    unfold ci
    rw [List.map_map, List.getElem?_map, List.getElem?_eq_getElem hl, List.getD_eq_getElem?_getD, List.getElem?_eq_getElem hl]
    rfl
  rw [e] at h1
  exact ⟨h1, h.1.frozenAt f⟩
theorem PInts.grown {w w' : World} {a : Option Addr} {ps : List (Int × Int)} {g : Nat} (h : PInts w a ps) (hg : w.grownBy w' (some g)) (hne : ∀ b o s, a = some ⟨b, o, s⟩ → b ≠ g) : PInts w' a ps := fun hz => by
  obtain ⟨b, off, e, hlt, hc⟩ := h hz
  have hb := hne b off none e
  exact ⟨b, off, e, Nat.lt_of_lt_of_le hlt hg.size, fun k hk => ⟨(gcell hg (a := ⟨b, off + k * 2, none⟩) hlt (by simpa using hb)).trans (hc k hk).1, (gcell hg (a := ⟨b, off + k * 2 + 1, none⟩) hlt (by simpa using hb)).trans (hc k hk).2⟩⟩
theorem ownsP_ne {w : World} {base n cap : Nat} {a : Option Addr} {ps : List (Int × Int)} (h : OwnsP w base (.slice a n cap) ps) {g : Nat} (hg : g < base) : ∀ b o s, a = some ⟨b, o, s⟩ → b ≠ g := fun b o s e => by
  have h' : w.ownsRow base 79 2 (.slice a n cap) ps.length (pflat ps) := h
  rcases ownsRow_forms h' with ⟨he, _⟩ | ⟨k, c, he⟩
  · simp only [Value.slice.injEq] at he
    rw [he.1] at e
    cases e
  · simp only [Value.slice.injEq] at he
    have h1 := h'.lt k (by rw [he.1]; rfl)
    rw [he.1] at e
    cases e
    omega
end Go.Proofs.YtgebplpbnaeckaaGreatDoor

/- BkM: Blocked spaces: plain mathematics. -/
namespace Go.Proofs.YtgebplpbnaeckaaGreatDoor
open Go.RowKit Go.Joins

/-- rows of K bits -/
def RC (K : Nat) (r : List Nat) : Prop := r.length = K ∧ ∀ x ∈ r, x < 2 ^ K
theorem RC.at {K : Nat} {r : List Nat} (h : RC K r) (k : Nat) : r.getD k 0 < 2 ^ K := by
  by_cases hk : k < r.length
  · rw [List.getD_eq_getElem?_getD, List.getElem?_eq_getElem hk]
    exact h.2 _ (List.getElem_mem hk)
  · rw [List.getD_eq_getElem?_getD, List.getElem?_eq_none (by omega)]
    exact Nat.two_pow_pos K
theorem RC.set {K : Nat} {r : List Nat} (h : RC K r) {f y : Nat} (hy : y < 2 ^ K) : RC K (r.set f y) := by
  refine ⟨by rw [List.length_set]; exact h.1, fun x hx => ?_⟩
  rcases List.mem_or_eq_of_mem_set hx with h1 | h1
  · exact h.2 x h1
  · rw [h1]; exact hy
theorem RC.upd {K : Nat} {r : List Nat} (h : RC K r) {f t : Nat} (ht : t < K) : RC K (upd r f t) := h.set (Nat.or_lt_two_pow (h.at f) (Nat.pow_lt_pow_right (by omega) ht))
theorem rc_stK {N : Nat} {m : Nat × Nat} {j kk : Nat} (hk : kk ≤ N) {r : List Nat} (h : RC (2 * N) r) : RC (2 * N) (stK m j kk r) :=
  foldl_inv (RC (2 * N)) _ _ (fun r k hkm hr => by
    split
    · exact hr.upd (opp_lt m (N := N) (k := k) (by have := List.mem_range.1 hkm; omega))
    · exact hr) h
theorem rc_stJ {N : Nat} {m : Nat × Nat} {jj : Nat} {r : List Nat} (h : RC (2 * N) r) : RC (2 * N) (stJ N m jj r) :=
  foldl_inv (RC (2 * N)) _ _ (fun _ _ _ hr => rc_stK (Nat.le_refl _) hr) h
theorem rc_stI (N : Nat) (L : List (Nat × Nat)) (ii : Nat) : RC (2 * N) (stI N L ii) :=
  foldl_inv (RC (2 * N)) _ _ (fun _ _ _ hr => rc_stJ hr) ⟨by simp, fun x hx => by rw [List.eq_of_mem_replicate hx]; exact Nat.two_pow_pos _⟩
theorem rc_clS {K : Nat} {r : List Nat} (h : RC K r) (k i : Nat) : RC K (clS r k i) := by
  unfold clS
  split
  · exact h.set (Nat.or_lt_two_pow (h.at i) (h.at k))
  · exact h
theorem rc_clI {K : Nat} {r : List Nat} (h : RC K r) (k ii : Nat) : RC K (clI k ii r) := foldl_inv (RC K) _ _ (fun _ _ _ hr => rc_clS hr _ _) h
theorem rc_clK {K : Nat} {r : List Nat} (h : RC K r) (kk : Nat) : RC K (clK K kk r) := foldl_inv (RC K) _ _ (fun _ _ _ hr => rc_clI hr _ _) h
/-- all lead to all -/
def allB (K : Nat) (r : List Nat) : Bool := (List.range K).all fun i => (List.range K).all fun k => i == k || bitN (r.getD i 0) k == 1
theorem allB_iff (K : Nat) (r : List Nat) : allB K r = true ↔ ∀ i, i < K → ∀ k, k < K → i ≠ k → bitN (r.getD i 0) k = 1 := by
  unfold allB
  simp only [List.all_eq_true, List.mem_range, Bool.or_eq_true, beq_iff_eq]
  constructor
  · intro h i hi k hk hne
    rcases h i hi k hk with e | e
    · exact absurd e hne
    · exact e
  · intro h i hi k hk
    by_cases e : i = k
    · exact Or.inl e
    · exact Or.inr (h i hi k hk e)
theorem bitN_testBit (a k : Nat) : bitN a k = 1 ↔ a.testBit k = true := by
  unfold bitN
  rw [Nat.testBit_eq_decide_div_mod_eq]
  simp
theorem full_iff {K a i : Nat} (ha : a < 2 ^ K) (hi : i < K) : a ||| 2 ^ i = 2 ^ K - 1 ↔ ∀ k, k < K → i ≠ k → bitN a k = 1 := by
  constructor
  · intro h k hk hne
    rw [bitN_testBit]
    have h1 := congrArg (fun x => x.testBit k) h
    simp only [Nat.testBit_or, Nat.testBit_two_pow, Nat.testBit_two_pow_sub_one] at h1
    rw [decide_eq_false hne, decide_eq_true hk, Bool.or_false] at h1
    exact h1
  · intro h
    refine Nat.eq_of_testBit_eq fun k => ?_
    rw [Nat.testBit_or, Nat.testBit_two_pow, Nat.testBit_two_pow_sub_one]
    by_cases hk : k < K
    · rw [decide_eq_true hk]
      by_cases hne : i = k
      · rw [decide_eq_true hne, Bool.or_true]
      · rw [(bitN_testBit a k).1 (h k hk hne), Bool.true_or]
    · rw [decide_eq_false hk, decide_eq_false (by omega), Bool.or_false]
      exact Nat.testBit_lt_two_pow (Nat.lt_of_lt_of_le ha (Nat.pow_le_pow_right (by omega) (by omega)))
/-- what IsBlocked answers -/
def blkB (n : Int) (zs : List Int) : Bool := vsB n zs && allB (2 * n.toNat) (ldR n zs)
theorem blkB_no {n : Int} {zs : List Int} (h : vsB n zs = false) : blkB n zs = false := by unfold blkB; rw [h]; rfl
theorem blkB_yes {n : Int} {zs : List Int} (h : vsB n zs = true) : blkB n zs = allB (2 * n.toNat) (ldR n zs) := by unfold blkB; rw [h]; rfl
theorem blk_no {n : Int} {zs : List Int} (h : vsB n zs = true) {i k : Nat} (hi : i < 2 * n.toNat) (hk : k < 2 * n.toNat) (hne : i ≠ k) (hb : bitN ((ldR n zs).getD i 0) k = 0) : blkB n zs = false := by
  rw [blkB_yes h]
  cases ha : allB (2 * n.toNat) (ldR n zs) with
  | false => rfl
  | true =>
    have := (allB_iff _ _).1 ha i hi k hk hne
    rw [hb] at this
    cases this
theorem ldR_rc {N : Nat} {zs : List Int} (h : vsB (N : Int) zs = true) : RC (2 * N) (ldR (N : Int) zs) := by
  rw [ldR_yes h]
  exact rc_clK (rc_stI N _ _) _
end Go.Proofs.YtgebplpbnaeckaaGreatDoor
