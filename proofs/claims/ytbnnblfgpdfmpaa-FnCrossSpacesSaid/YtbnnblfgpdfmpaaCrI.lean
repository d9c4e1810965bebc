/- CriticalParts of the program. -/
import Derived.Test.YtbnnblfgpdfmpaaCrD
import Derived.Test.YtbnnblfgpdfmpaaCrO
import Derived.Test.YtbnnblfgpdfmpaaCrP
import Derived.Test.YtbnnblfgpdfmpaaPtS
namespace Go.Proofs.Ytbnnblfgpdfmpaa
open Go.RowKit Go.Joins Go.ChangeMaps Go.MapKept Go.WideShapes
open Go.Maps (Keyed)

/-- the call's own map of parts -/
def OM (b n : Nat) (f : Nat × Nat → Bool) (w : World) : Prop := ∃ D : DataW Unit, w.ownsMap Try.prog 60 (plainElem Try.prog 4) b n D ∧ MapIs D f ∧ KeysIn D
theorem OM.below {b n : Nat} {f : Nat × Nat → Bool} {w w' : World} (h : OM b n f w) (hb : Below w.heap.size w w') : OM b n f w' := by
  obtain ⟨D, h1, h2, h3⟩ := h
  exact ⟨D, h1.kept (grown_of hb) (by simp), h2, h3⟩
theorem OM.grown {b n : Nat} {f : Nat × Nat → Bool} {w w' : World} {row : Option Nat} (h : OM b n f w) (hg : w.grownBy w' row) (hne : some b ≠ row) : OM b n f w' := by
  obtain ⟨D, h1, h2, h3⟩ := h
  exact ⟨D, h1.kept hg hne, h2, h3⟩
theorem OM.congr {b n : Nat} {f g : Nat × Nat → Bool} {w : World} (h : OM b n f w) (e : ∀ q : Nat × Nat, q.1 < 16 → q.2 < 16 → f q = g q) : OM b n g w := by
  obtain ⟨D, h1, h2, h3⟩ := h
  exact ⟨D, h1, h2.congr e, h3⟩
theorem OM.lt {b n : Nat} {f : Nat × Nat → Bool} {w : World} (h : OM b n f w) : b < w.heap.size := by
  obtain ⟨D, h1, _⟩ := h
  exact h1.lt
theorem OM.made (w : World) : OM w.heap.size 0 (fun _ => false) (w.alloc (.map #[] 0)) := ⟨_, World.ownsMap_made w _ _ _, MapIs.empty, KeysIn.empty⟩
theorem zero_bool (w : World) : (zeroValue 4).run Try.prog w = .ok (.bool false) w := by kernel_rfl
theorem OM.look {b n : Nat} {f : Nat × Nat → Bool} {w : World} (h : OM b n f w) {c k : Nat} (hc : c < 16) (hk : k < 16) : (Instr.lookup 58 (.map (some b)) (.agg #[.int .i64 c, .int .i64 k]) false).run Try.prog w = .ok (.bool (f (c, k))) w := by
  obtain ⟨D, h1, h2, _⟩ := h
  obtain ⟨x, hx, hD⟩ := lookup_bool h1 part_keyed Try.underlying58 Try.underlying4 (zero_bool w) (part_key _ _ (wf_16 c hc) (wf_16 k hk))
  rw [hx]
  have e := h2.2 (c, k) hc hk
  rw [hD] at e
  have e2 : x = f (c, k) := by
    have e3 := DataW.lit.inj e
    exact Lit.bool.inj e3
  rw [e2]
theorem dropGreater_om (b n : Nat) (f : Nat × Nat → Bool) (pc pb : Nat) (w : World) (hp1 : pc < 16) (hp2 : pb < 16) (h : OM b n f w) :
    Calls Try.prog 55 #[.map (some b), .agg #[.int .i64 pc, .int .i64 pb]] w fun e w' => e = .returned (.tuple #[]) ∧ OM b n (fun q => f q && !gtP (pc, pb) q) w' ∧ w.grownBy w' (some b) := by
  obtain ⟨D, h1, h2, h3⟩ := h
  exact (dropGreater_any b n D f pc pb w hp1 hp2 h1 h2 h3).mono fun e w' ⟨he, hD, hg⟩ => ⟨he, hD, hg⟩
/-- what the map holds when the first k parts have been looked at -/
def seenB (n : Nat) (zs : List Int) (k : Nat) (q : Nat × Nat) : Bool := ((ordL n).take k).contains q && !opn zs q
theorem seen_zero (n : Nat) (zs : List Int) (q : Nat × Nat) : seenB n zs 0 q = false := by unfold seenB; simp
theorem seen_end (n : Nat) (zs : List Int) (q : Nat × Nat) : seenB n zs (ordL n).length q = stillB n zs 0 q := by rw [still_zero]; unfold seenB; rw [List.take_length]
theorem take_mem {n k : Nat} (hk : k < (ordL n).length) (q : Nat × Nat) : ((ordL n).take (k + 1)).contains q = (((ordL n).take k).contains q || decide (q = (ordL n)[k])) := by
  rw [Bool.eq_iff_iff, Bool.or_eq_true, decide_eq_true_iff, List.contains_iff_mem, List.contains_iff_mem, List.take_add_one, List.getElem?_eq_getElem hk, List.mem_append]
  simp only [Option.toList_some, List.mem_singleton]
theorem seen_open {n : Nat} {zs : List Int} {k : Nat} (hk : k < (ordL n).length) (h : opn zs (ordL n)[k] = true) (q : Nat × Nat) : seenB n zs (k + 1) q = seenB n zs k q := by
  unfold seenB
  rw [take_mem hk]
  by_cases e : q = (ordL n)[k]
  · rw [e, h, Bool.not_true, Bool.and_false, Bool.and_false]
  · rw [decide_eq_false e, Bool.or_false]
theorem seen_closed {n : Nat} {zs : List Int} {k : Nat} (hk : k < (ordL n).length) (h : opn zs (ordL n)[k] = false) (q : Nat × Nat) : (if q = (ordL n)[k] then true else seenB n zs k q) = seenB n zs (k + 1) q := by
  unfold seenB
  rw [take_mem hk]
  by_cases e : q = (ordL n)[k]
  · rw [if_pos e, e, h]; simp
  · rw [if_neg e, decide_eq_false e, Bool.or_false]
theorem still_step {n : Nat} {zs : List Int} {k : Nat} (hk : k < (ordL n).length) (h : crB n zs (ordL n)[k] = true) (q : Nat × Nat) : stillB n zs (k + 1) q = (stillB n zs k q && !gtP (ordL n)[k] q) := still_yes hk h
theorem ord_16 {n : Nat} (hn : n ≤ 4) {p : Nat × Nat} (hp : p ∈ ordL n) : p.1 < 16 ∧ p.2 < 16 := by
  have hf := ord_facts hn hp
  have p2 : 2 ^ n ≤ 16 := Nat.pow_le_pow_right (n := 2) (by omega) hn
  have hb : p.2 ≤ p.1 := by rw [← hf.2.1]; exact Nat.and_le_right
  exact ⟨by omega, by omega⟩
set_option maxRecDepth 100000 in
theorem ord_len : range5 (fun n => decide ((ordL n).length ≤ 81)) = true := by decide +kernel
theorem OM.put {b n : Nat} {f : Nat × Nat → Bool} {D : DataW Unit} {w : World} {c k : Nat} (h1 : w.ownsMap Try.prog 60 (plainElem Try.prog 4) b n (D.put (litP (c : Int) (k : Int)) (.lit (.bool true)))) (h2 : MapIs D f) (h3 : KeysIn D) (hc : c < 16) (hk : k < 16) :
    OM b n (fun q => if q = (c, k) then true else f q) w := ⟨_, h1, h2.put (q := (c, k)) hc hk true, h3.put (q := (c, k)) hc hk _⟩
theorem ofP_at {l : List (Nat × Nat)} {k : Nat} (hk : k < l.length) : (ofP l).getD k (0, 0) = ((l[k].1 : Int), (l[k].2 : Int)) := by
  unfold ofP
  rw [List.getD_eq_getElem?_getD, List.getElem?_map, List.getElem?_eq_getElem hk]
  rfl
theorem ofP_len (l : List (Nat × Nat)) : (ofP l).length = l.length := List.length_map _
/-- the critical parts among the first k -/
def tookP (n : Nat) (zs : List Int) (k : Nat) : List (Nat × Nat) := ((ordL n).take k).filter (crB n zs)
theorem took_yes {n : Nat} {zs : List Int} {k : Nat} (hk : k < (ordL n).length) (h : crB n zs (ordL n)[k] = true) : tookP n zs (k + 1) = tookP n zs k ++ [(ordL n)[k]] := by
  unfold tookP
  rw [filter_takeP n zs hk, if_pos h]
theorem took_no {n : Nat} {zs : List Int} {k : Nat} (hk : k < (ordL n).length) (h : crB n zs (ordL n)[k] = false) : tookP n zs (k + 1) = tookP n zs k := by
  unfold tookP
  rw [filter_takeP n zs hk, if_neg (by rw [h]; simp), List.append_nil]
theorem took_all (n : Nat) (zs : List Int) : tookP n zs (ordL n).length = critL n zs := by
  unfold tookP critL
  rw [List.take_length]
theorem took_len (n : Nat) (zs : List Int) (k : Nat) : (tookP n zs k).length ≤ k := by
  unfold tookP
  exact Nat.le_trans (List.length_filter_le _ _) (List.length_take_le _ _)
/-- the map as the first loop has it -/
def SeenI (W : World) (N : Nat) (zs : List Int) (k : Nat) (wq : World) : Prop := Below W.heap.size W wq ∧ OM W.heap.size k (seenB N zs k) wq
/-- the map and the list as the second loop has them -/
def TookI (W : World) (N : Nat) (zs : List Int) (k : Nat) (v : Value) (wq : World) : Prop :=
  Below W.heap.size W wq ∧ OM W.heap.size 81 (stillB N zs k) wq ∧ OwnsP wq (W.heap.size + 1) v (ofP (tookP N zs k))
theorem OM.more {b n m : Nat} {f : Nat × Nat → Bool} {w : World} (h : OM b n f w) (hm : n ≤ m) : OM b m f w := by
  obtain ⟨D, h1, h2⟩ := h
  exact ⟨D, h1.mono hm, h2⟩
theorem implValid_was (n : Int) (a : Option Addr) (cap : Nat) (zs : List Int) (w : World) (r : Bool) (hi : Ints w a zs) (hn : zs.length ≤ 1048576) (hr : vsB n zs = r) :
    Calls Try.prog 26 #[.agg #[.int .i64 n, .slice a zs.length cap]] w fun e w' => e = .returned (.bool r) ∧ Below w.heap.size w w' := by
  subst hr
  exact implValidSpace_any n a cap zs w hi hn
theorem openAsker1_was (n c b : Int) (a : Option Addr) (cap g : Nat) (zs : List Int) (w : World) (r : Bool) (hi : Ints w a zs) (hn : zs.length ≤ 1048576) (bx : Box w g n a zs.length cap) (hr : ∀ x ∈ zs, 0 ≤ x ∧ x ≤ 15) (hc : 0 ≤ c ∧ c ≤ 15) (hb : 0 ≤ b) (ho : openB zs c b = r) :
    Calls Try.prog 69 #[.agg #[.int .i64 c, .int .i64 b], .pointer (some ⟨g, 0, none⟩)] w fun e w' => e = .returned (.bool r) ∧ Below w.heap.size w w' := by
  subst ho
  exact openAsker1_any n c b a cap g zs w hi hn bx hr hc hb

set_option maxHeartbeats 4000000 in
set_option maxRecDepth 100000 in
theorem implCriticalParts_any (n : Int) (a : Option Addr) (cap : Nat) (zs : List Int) (w : World) (hi : Ints w a zs) (hn : zs.length ≤ 1048576) :
    Calls Try.prog 24 #[.agg #[.int .i64 n, .slice a zs.length cap]] w (GivesP (crR n zs) w) := by
  obtain ⟨j0, hj0, hy0, hy1, hy2⟩ := info_parts info_part
  have S0 := SV.new w n a zs cap none [] 26 hi (Ints.nil _ _)
  clear hi
  obtain ⟨⟨_, c0, c1⟩, _⟩ := S0.pair
  by_cases hv : vsB n zs = false
  · have HV := hide (crR_no hv)
    have HVV := hide hv
    clear hv
    go_enter Try.func24, Try.ntmps24
    go_wp2_with fail
    refine (implValid_was _ _ _ _ _ false S0.2.1 hn HVV.out).mono ?_
    rintro e w1 ⟨rfl, hb⟩
    go_wp2
    go_ret
    exact ⟨_, rfl, by rw [HV.out]; exact World.ownsRow_nil _ _ _ _, (S0.below hb).2.2.2⟩
  · have hv : vsB n zs = true := by simpa using hv
    have HVV := hide hv
    have HV := hide (crR_yes hv)
    have hV := valid_of hv
    have HR := hide (valid_range hV)
    have hN4 := hV.1
    obtain ⟨N, hN⟩ : ∃ N : Nat, n = (N : Int) := ⟨n.toNat, by omega⟩
    subst hN
    have hN : 1 ≤ N ∧ N ≤ 4 := by omega
    have hol : (ordL N).length ≤ 81 := by simpa using range5_of ord_len hN.2
    have HOL := hide hol
    have HO := hide (ofP_len (ordL N))
    have hmm := fun w => @run_makeMap Try.prog 58 w
    clear hV hN4 hv hol
    go_enter Try.func24, Try.ntmps24
    go_wp2_with fail
    refine (implValid_was _ _ _ _ _ true S0.2.1 hn HVV.out).mono ?_
    rintro e w1 ⟨rfl, hb⟩
    have S1 := S0.below hb
    clear c0 c1 S0 hb
    obtain ⟨⟨_, c0, c1⟩, _⟩ := S1.pair
    go_wp2_with fail
    refine (partsInOrder_any N _ hN).mono ?_
    rintro e w2 ⟨v, rfl, own2, hb2⟩
    obtain ⟨av, cv, rfl, _⟩ := own2.form
    have S2 := S1.below hb2
    clear c0 c1 S1 hb2
    obtain ⟨⟨_, c0, c1⟩, _⟩ := S2.pair
    go_wp2_with fail
    refine (openAsker_any _ _ _ _ _).mono ?_
    rintro e w3 ⟨rfl, rfl⟩
    have bel := bel1 w2 (.cells #[.int .i64 (N : Int), .slice a zs.length cap] 26)
    have own3 := own2.below bel
    have S3 := S2.below bel
    have bx3 := Box.new w2 (N : Int) a zs.length cap 26
    obtain ⟨W, hW⟩ : ∃ W : World, W = w2.alloc (.cells #[.int .i64 (N : Int), .slice a zs.length cap] 26) := ⟨_, rfl⟩
    rw [← hW] at own3 S3 bx3 ⊢
    have hwW := hide (show w.heap.size ≤ W.heap.size from S3.2.2.2.size)
    have M0 : SeenI W N zs 0 (W.alloc (.map #[] 0)) := ⟨bel1 W _, (OM.made W).congr (fun q _ _ => (seen_zero N zs q).symm)⟩
    have HW := hide hW
    have HS := hide S3
    have HB := hide bx3
    have HOW := hide own3
    clear bel own2 own3 S2 S3 bx3 c0 c1 hW
    go_wp2_with fail
    go_loopw [22] (fun i wr => ∃ k : Nat, k ≤ (ofP (ordL N)).length ∧ i = .int .i64 k ∧ SeenI W N zs k wr) (fun i _ => (ofP (ordL N)).length - (intOf i).toNat)
    case atStart => exact ⟨0, Nat.zero_le _, rfl, M0⟩
    case round =>
      clear M0
      obtain ⟨k, hk, rfl, hs⟩ := hrel
      have hp := (HOW.out.below hs.1).pints
      by_cases hlt : k < (ofP (ordL N)).length
      · have hlt' : k < (ordL N).length := by rw [← HO.out]; exact hlt
        have hk81 : k < 81 := by have := HOL.out; omega
        obtain ⟨bb, off, rfl, hbl, hc⟩ := hp (by omega)
        obtain ⟨h1, h2⟩ := hc k hlt
        rw [ofP_at hlt'] at h1 h2
        have h16 := ord_16 hN.2 (List.getElem_mem hlt')
        obtain ⟨pc, hpc⟩ : ∃ pc, pc = (ordL N)[k].1 := ⟨_, rfl⟩
        obtain ⟨pb, hpb⟩ : ∃ pb, pb = (ordL N)[k].2 := ⟨_, rfl⟩
        have hpp : (ordL N)[k] = (pc, pb) := by rw [hpc, hpb]
        rw [← hpc, ← hpb] at h16
        simp only [← hpc] at h1
        simp only [← hpb] at h2
        have HPP := hide hpp
        have b5 := bel1 wr (.cells #[.int .i64 (pc : Int), .int .i64 (pb : Int)] 60)
        have H5 := hide (hs.1.trans (b5.mono hs.1.size))
        have M5 := hide (hs.2.below b5)
        have px := PBox.new wr (pc : Int) (pb : Int) 60
        have PX := hide px
        obtain ⟨_, p0, p1⟩ := px
        have h15 : Hid (((0 : Int) ≤ (pc : Int) ∧ (pc : Int) ≤ 15) ∧ (0 : Int) ≤ (pb : Int)) := ⟨⟨by omega, by omega⟩, by omega⟩
        have HLT' := hide hlt'
        have hnn : k < maxLen := by have := HOL.out; have := HO.out; unfold maxLen; omega
        clear hc hp hpc hpb hpp b5
        cases hop : opn zs (pc, pb) with
        | true =>
          have hop' : Hid (openB zs (pc : Int) (pb : Int) = true) := hop
          have HOP : Hid (opn zs (ordL N)[k] = true) := (congrArg (opn zs) HPP.out).trans hop
          have HS5 := hide hs
          clear hop hs
          go_wp2_with fail
          refine (openAsker1_was (N : Int) _ _ a cap _ zs _ true (HS.out.2.1.below H5.out) hn (HB.out.below H5.out) HR.out h15.out.1 h15.out.2 hop'.out).mono ?_
          rintro e w6 ⟨rfl, b6⟩
          have H6 : Hid (SeenI W N zs (k + 1) w6) := ⟨H5.out.trans (b6.mono H5.out.size), ((M5.out.below b6).more (Nat.le_succ k)).congr (fun q _ _ => (seen_open HLT'.out HOP.out q).symm)⟩
          go_wp2
          go_roundw
          case rel => exact ⟨k + 1, by omega, by go_num, H6.out⟩
          case measure => simp only [intOf]; omega
        | false =>
          have hop' : Hid (openB zs (pc : Int) (pb : Int) = false) := hop
          have HOP : Hid (opn zs (ordL N)[k] = false) := (congrArg (opn zs) HPP.out).trans hop
          clear hop hs
          go_wp2_with fail
          refine (openAsker1_was (N : Int) _ _ a cap _ zs _ false (HS.out.2.1.below H5.out) hn (HB.out.below H5.out) HR.out h15.out.1 h15.out.2 hop'.out).mono ?_
          rintro e w6 ⟨rfl, b6⟩
          obtain ⟨D, hown6, hm6, hk6⟩ := M5.out.below b6
          have H6 := hide (H5.out.trans (b6.mono H5.out.size))
          obtain ⟨_, u0, u1⟩ := PX.out.below b6
          have HM6 := hide hm6
          have HK6 := hide hk6
          clear p0 p1 b6 hm6 hk6
          go_wp2_with (first
            | (at_mapUpdate; refine wpList_mapUpdate_own _ rfl _ _ _ 58 rfl 60 4 part_keyed Try.underlying58 _ W.heap.size k D rfl hown6 hnn _ _ _ rfl rfl (part_key _ _ (wf_16 pc h16.1) (wf_16 pb h16.2)) (.lit (.bool true)) [] (plainElem_bool Try.underlying4 true) ?_; intro w7 hown7 hgrow7)
            | go_in)
          have H7 : Hid (SeenI W N zs (k + 1) w7) := ⟨bgrown H6.out hgrow7 H6.out.size (fun j hj => by cases hj; exact Nat.le_refl _), (OM.put hown7 HM6.out HK6.out h16.1 h16.2).congr (fun q _ _ => (congrArg (fun z => if q = z then true else seenB N zs k q) HPP.out.symm).trans (seen_closed HLT'.out HOP.out q))⟩
          clear hown6 hown7 hgrow7 u0 u1
          go_wp2
          go_roundw
          case rel => exact ⟨k + 1, by omega, by go_num, H7.out⟩
          case measure => simp only [intOf]; omega
      · obtain rfl : k = (ofP (ordL N)).length := by omega
        have T0 : TookI W N zs 0 (.slice none 0 0) wr := ⟨hs.1, (hs.2.more (by rw [HO.out]; exact HOL.out)).congr (fun q _ _ => by rw [HO.out]; exact seen_end N zs q), World.ownsRow_nil _ _ _ _⟩
        clear hs hp hmm
        go_wp2_with fail
        go_loopw [8, 35] (fun v i wr => ∃ k : Nat, k ≤ (ofP (ordL N)).length ∧ i = .int .i64 k ∧ TookI W N zs k v wr) (fun _ i _ => (ofP (ordL N)).length - (intOf i).toNat)
        case atStart => exact ⟨0, Nat.zero_le _, rfl, T0⟩
        case round =>
          clear T0
          obtain ⟨k, hk, rfl, hs⟩ := hrel
          have hp := (HOW.out.below hs.1).pints
          obtain ⟨va, vc, rfl, _⟩ := hs.2.2.form
          by_cases hlt : k < (ofP (ordL N)).length
          · have hlt' : k < (ordL N).length := by rw [← HO.out]; exact hlt
            have hk81 : k < 81 := by have := HOL.out; omega
            obtain ⟨bb, off, rfl, hbl, hc⟩ := hp (by omega)
            obtain ⟨h1, h2⟩ := hc k hlt
            rw [ofP_at hlt'] at h1 h2
            have h16 := ord_16 hN.2 (List.getElem_mem hlt')
            obtain ⟨pc, hpc⟩ : ∃ pc, pc = (ordL N)[k].1 := ⟨_, rfl⟩
            obtain ⟨pb, hpb⟩ : ∃ pb, pb = (ordL N)[k].2 := ⟨_, rfl⟩
            have hpp : (ordL N)[k] = (pc, pb) := by rw [hpc, hpb]
            rw [← hpc, ← hpb] at h16
            simp only [← hpc] at h1
            simp only [← hpb] at h2
            have HPP := hide hpp
            have b5 := bel1 wr (.cells #[.int .i64 (pc : Int), .int .i64 (pb : Int)] 60)
            have H5 := hide (hs.1.trans (b5.mono hs.1.size))
            have hlook := (hs.2.1.below b5).look h16.1 h16.2
            have M5 := hide (hs.2.1.below b5)
            have px := PBox.new wr (pc : Int) (pb : Int) 60
            have PX := hide px
            obtain ⟨_, p0, p1⟩ := px
            have HLT' := hide hlt'
            have hst : stillB N zs k (pc, pb) = crB N zs (pc, pb) := (congrArg (stillB N zs k) hpp.symm).trans ((still_turn hN.2 (zs := zs) hlt').trans (congrArg (crB N zs) hpp))
            rw [hst] at hlook
            cases hcr : crB N zs (pc, pb) with
            | false =>
              have HCR : Hid (crB N zs (ordL N)[k] = false) := (congrArg (crB N zs) HPP.out).trans hcr
              have H6 : Hid (TookI W N zs (k + 1) (.slice va (ofP (tookP N zs k)).length vc) (wr.alloc (.cells #[.int .i64 (pc : Int), .int .i64 (pb : Int)] 60))) :=
                ⟨H5.out, M5.out.congr (fun q _ _ => (still_no HLT'.out HCR.out).symm), by rw [took_no HLT'.out HCR.out]; exact hs.2.2.below b5⟩
              rw [hcr] at hlook
              clear hc hp hpc hpb hpp b5 hst hcr hs
              go_wp2
              go_roundw
              case rel => exact ⟨k + 1, by omega, by go_num, H6.out⟩
              case measure => simp only [intOf]; omega
            | true =>
              have HCR : Hid (crB N zs (ordL N)[k] = true) := (congrArg (crB N zs) HPP.out).trans hcr
              rw [hcr] at hlook
              have hop := hs.2.2.below b5
              have hop' : (wr.alloc (.cells #[.int .i64 (pc : Int), .int .i64 (pb : Int)] 60)).ownsRow (W.heap.size + 1) 60 2 (.slice va (ofP (tookP N zs k)).length vc) (ofP (tookP N zs k)).length (pflat (ofP (tookP N zs k))) := hop
              have hol : (ofP (tookP N zs k)).length ≤ 81 := by
                rw [ofP_len]
                have := took_len N zs k
                have := HOL.out
                omega
              have hws := H5.out.size
              have hwb := HOW.out
              have HS' := hide hs
              have hvl := hide (fun j hj => (pown_ge hs.2.2 j hj))
              have hWlt : W.heap.size + 1 ≤ wr.heap.size := hs.2.1.lt
              clear hc hp hpc hpb hpp b5 hst hcr hs hwb
              go_wp2_with (first
                | (at_builtin; refine wpList_append_own _ rfl _ _ 37 rfl (W.heap.size + 1) 60 j0 (.agg #[.int .i64 0, .int .i64 0]) 2 16 Try.underlying37 hj0 hy0 hy1 hy2 rfl (by decide) _ _ _ rfl (hop'.alloc _) ⟨wr.heap.size + 1, 0, none⟩ 1 1 [.int .i64 (pc : Int), .int .i64 (pb : Int)] rfl rfl (by have hh := World.news_of_block (cs := #[.int .i64 (pc : Int), .int .i64 (pb : Int)]) (t := 60) (fr := (0, 0)) (heap_alloc_new (wr.alloc (.cells #[.int .i64 (pc : Int), .int .i64 (pb : Int)] 60)) _); simp only [World.size_alloc] at hh; exact hh) (by intro u hu; simp at hu; rcases hu with rfl | rfl <;> rfl) (by unfold maxLen; omega) (by first | omega | (simp; omega)) (by first | omega | (simp; omega)) ?_)
                | fail)
              intro v' w6 hown' hgrow _
              have hHop : OwnsP wr (W.heap.size + 1) (.slice va (ofP (tookP N zs k)).length vc) (ofP (tookP N zs k)) := HS'.out.2.2
              have hrow : ∀ j, (Value.slice va (ofP (tookP N zs k)).length vc).ownBlock = some j → W.heap.size + 1 ≤ j ∧ j < wr.heap.size := fun j hj => hvl.out j hj
              have h7a := (bel1 (wr.alloc (.cells #[.int .i64 (pc : Int), .int .i64 (pb : Int)] 60)) (.cells #[.int .i64 (pc : Int), .int .i64 (pb : Int)] 60))
              have M7 := hide ((M5.out.below h7a).grown hgrow (fun e => by have := hrow _ e.symm; omega))
              have P7 := hide ((PX.out.below h7a).grown hgrow (fun e => by have := hrow _ e.symm; omega))
              have B7 := hide (bgrown (H5.out.trans (h7a.mono H5.out.size)) hgrow (H5.out.trans (h7a.mono H5.out.size)).size (fun j hj => by have := hrow j hj; omega))
              have V7 : OwnsP w6 (W.heap.size + 1) v' (ofP (tookP N zs k) ++ [((pc : Int), (pb : Int))]) := OwnsP.push hown'
              have e7 : ofP (tookP N zs k) ++ [((pc : Int), (pb : Int))] = ofP (tookP N zs (k + 1)) := by
                rw [took_yes HLT'.out HCR.out]
                unfold ofP
                rw [List.map_append]
                exact congrArg (fun z : Nat × Nat => _ ++ [((z.1 : Int), (z.2 : Int))]) HPP.out.symm
              rw [e7] at V7
              obtain ⟨qa, qc, rfl, _⟩ := V7.form
              have HV7 := hide V7
              obtain ⟨_, r0, r1⟩ := P7.out
              clear hop hop' hown' hgrow V7 e7 h7a hHop p0 p1 hlook
              go_wp2_with fail
              refine (dropGreater_om W.heap.size 81 _ pc pb _ h16.1 h16.2 M7.out).mono ?_
              rintro e w8 ⟨rfl, M8, g8⟩
              have H8 : Hid (TookI W N zs (k + 1) (.slice qa (ofP (tookP N zs (k + 1))).length qc) w8) :=
                ⟨bgrown B7.out g8 B7.out.size (fun j hj => by cases hj; exact Nat.le_refl _), M8.congr (fun q _ _ => ((still_step HLT'.out HCR.out q).trans (congrArg (fun z => stillB N zs k q && !gtP z q) HPP.out)).symm), HV7.out.other g8 (fun g e => by cases e; exact Nat.lt_succ_self _)⟩
              clear M8 g8 r0 r1
              go_wp2
              go_roundw
              case rel => exact ⟨k + 1, by omega, by go_num, H8.out⟩
              case measure => simp only [intOf]; omega
          · obtain rfl : k = (ofP (ordL N)).length := by omega
            have HT := hide hs
            clear hs hp
            go_wp2
            go_ret
            refine ⟨_, rfl, ?_, bnext HS.out.2.2.2 (HT.out.1.mono (Nat.le_refl _))⟩
            have e1 : crR (N : Int) zs = ofP (tookP N zs (ofP (ordL N)).length) := by rw [HV.out, Int.toNat_natCast, HO.out, took_all]
            rw [e1]
            exact HT.out.2.2.le (Nat.le_succ_of_le hwW.out)
theorem crR_81 (n : Int) (zs : List Int) : (crR n zs).length ≤ 81 := by
  rcases Bool.eq_false_or_eq_true (vsB n zs) with h | h
  · have hV := valid_of h
    have hN := hV.1
    rw [crR_yes h, ofP_len]
    have h1 : (ordL n.toNat).length ≤ 81 := by simpa using range5_of ord_len (n := n.toNat) (by omega)
    exact Nat.le_trans (List.length_filter_le _ _) h1
  · rw [crR_no h]
    simp
theorem crR_len (n : Int) (zs : List Int) : (crR n zs).length ≤ 1048576 := Nat.le_trans (crR_81 n zs) (by omega)
end Go.Proofs.Ytbnnblfgpdfmpaa
