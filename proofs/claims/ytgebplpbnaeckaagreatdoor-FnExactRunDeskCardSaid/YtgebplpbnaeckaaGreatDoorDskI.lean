/- The desk of the program: spaces and votes are read and what is asked is answered. (Written by tools/gendski.py.) -/
import Derived.Test.YtgebplpbnaeckaaGreatDoorDskA
namespace Go.Proofs.YtgebplpbnaeckaaGreatDoor
open Go.RowKit Go.Joins

theorem votes_read {n : Int} {zs vs : List Int} {ps : List (List UInt8)} (hV : Valid n zs) (hvs : ps.map rdN = vs) :
    (prL ps = none → votesB zs vs = false) ∧ (∀ ys, prL ps = some ys → vvB n zs ys = true → ys = vs ∧ votesB zs vs = true) ∧ (∀ ys, prL ps = some ys → vvB n zs ys = false → votesB zs vs = false) := by
  have hin : ∀ ys, votesB zs ys = true → ∀ x ∈ ys, 0 ≤ x ∧ x ≤ 15 := fun ys hy x hx => by
    have h : VotesOk zs ys := by simpa [votesB] using hy
    obtain ⟨j, hj, rfl⟩ := List.getElem_of_mem hx
    have := h.1 j hj
    rw [getD_lt hj] at this
    exact valid_range hV _ this
  have hback : votesB zs vs = true → prL ps = some vs := fun h => (prL_iff (hin vs h)).2 ((rdM_iff (hin vs h)).1 hvs)
  refine ⟨fun h => ?_, fun ys h hv => ?_, fun ys h hv => ?_⟩
  · cases hc : votesB zs vs with
    | false => rfl
    | true => rw [hback hc] at h; cases h
  · have hy : votesB zs ys = true := by
      unfold vvB at hv
      rw [Bool.and_eq_true] at hv
      exact hv.2
    have h2 := (rdM_iff (hin ys hy)).2 ((prL_iff (hin ys hy)).1 h)
    have : ys = vs := h2.symm.trans hvs
    subst this
    exact ⟨rfl, hy⟩
  · cases hc : votesB zs vs with
    | false => rfl
    | true =>
      rw [hback hc] at h
      cases h
      unfold vvB at hv
      rw [vsB_true hV, hc] at hv
      cases hv
theorem votes_small5 {zs vs : List Int} (h : votesB zs vs = true) : vs.length ≤ 5 := by
  have h : VotesOk zs vs := by simpa [votesB] using h
  have := h.2
  omega
theorem Owns.cap_le {w : World} {base n cap : Nat} {a : Option Addr} {zs : List Int} (h : Owns w base (.slice a n cap) zs) : zs.length ≤ cap := by
  have h' : w.ownsRow base 3 1 (.slice a n cap) zs.length (zs.map (Value.int .i64)) := h
  rcases h'.2 with ⟨e, h0⟩ | ⟨g, cp, cur, e, _, _, hn, _⟩
  · have : zs.length = 0 := by simpa using h0
    omega
  · cases e; omega
theorem votesI_was (n : Int) (a l : Option Addr) (cap capl : Nat) (zs vs : List Int) (w : World) (r : Bool) (hi : Ints w a zs) (hj : Ints w l vs) (hn : zs.length ≤ 1048576) (hm : vs.length ≤ 1048576) (hr : vvB n zs vs = r) :
    Calls Tryz.prog 107 #[.agg #[.int .i64 n, .slice a zs.length cap], .slice l vs.length capl] w fun e w' => e = .returned (.bool r) ∧ Below w.heap.size w w' := by
  subst hr; exact implValidVotes_any n a l cap capl zs vs w hi hj hn hm
/-- what readSpace answers -/
def RsE (o : Option (Int × List Int)) (s : ByteArray) (w w' : World) (e : Ending) : Prop := (∃ n zs a cap, o = some (n, zs) ∧ e = .returned (.tuple #[.agg #[.int .i64 n, .slice a zs.length cap], .nilIface]) ∧ Owns w' w.heap.size (.slice a zs.length cap) zs) ∨ (o = none ∧ e = .returned (.tuple #[.agg #[.int .i64 0, .slice none 0 0], .iface 64 (.agg #[.string s])]))
set_option maxHeartbeats 2000000 in
set_option maxRecDepth 100000 in
theorem readSpace_any (s : ByteArray) (o : Option (Int × List Int)) (w : World) (hs : s.size ≤ 1048576) (hg : GV w) (ho : parS s.data.toList = o) :
    Calls Tryz.prog 80 #[.string s] w fun e w' => RsE o s w w' e ∧ Below w.heap.size w w' := by
  have BB := bel1 w (.cells #[.int .i64 0, .slice none 0 0] 37)
  have hb0 := heap_alloc_new w (.cells #[.int .i64 0, .slice none 0 0] 37)
  obtain ⟨W, hW⟩ : ∃ W : World, W = w.alloc (.cells #[.int .i64 0, .slice none 0 0] 37) := ⟨_, rfl⟩
  rw [← hW] at BB hb0
  have hW1 : w.heap.size < W.heap.size := lt_of_block hb0
  have HKB := hide hb0
  have HO := hide ho
  clear hb0 ho
  go_enter Tryz.func80, Tryz.ntmps80
  go_wp2_with fail
  rw [← hW]
  clear hW
  refine (implParse_any s o _ hs (hg.below BB) HO.out).mono ?_
  rintro e w1 ⟨hE, hb1⟩
  have B1 := BB.trans (hb1.mono BB.size)
  have r1 := (hb1.block _ hW1).trans HKB.out
  have hs1 : w.heap.size < w1.heap.size := lt_of_block r1
  have fin0 : ∀ (w3 : World) (x y : Value), Below w.heap.size w w3 → Below w.heap.size w ((w3.setCell ⟨w.heap.size, 0, none⟩ x).setCell ⟨w.heap.size, 1, none⟩ y) := fun w3 x y h => (h.setCell (p := ⟨w.heap.size, 0, none⟩) (Nat.le_refl _) x).setCell (p := ⟨w.heap.size, 1, none⟩) (Nat.le_refl _) y
  have f0 := unfrozen_of_block r1 0
  have f1 := unfrozen_of_block r1 1
  have g0 := cell_of_block r1 0
  have g1 := cell_of_block r1 1
  have HRS := hide r1
  have HB1 := hide B1
  rcases hE with ⟨n, zs, a, cap, rfl, rfl, OW⟩ | ⟨rfl, rfl⟩
  · have kb := heap_alloc_new w1 (.cells #[.int .i64 n, .slice a zs.length cap] 37)
    have x0 := cell_of_block kb 0
    have x1 := cell_of_block kb 1
    have HOW := hide OW
    clear r1 kb OW hb1
    go_wp2
    refine bodyPost_ret (ret_spb rfl _ _ _ _ _ rfl (((bel1 _ _).block _ (by simp; exact hs1)).trans (block_setCell (i := 1) (block_setCell (i := 0) HRS.out _) _))) rfl ?_
    refine ⟨.inl ⟨n, zs, a, cap, rfl, rfl, ?_⟩, (fin0 _ _ _ HB1.out).alloc (by simp; omega) _⟩
    exact (((HOW.out.setBelow (p := ⟨w.heap.size, 0, none⟩) hW1 _).setBelow (p := ⟨w.heap.size, 1, none⟩) hW1 _).below (bel1 _ _)).le BB.size
  · clear r1 hb1
    go_wp2
    refine bodyPost_ret (ret_spb rfl _ _ _ _ _ rfl (((bel1 _ _).block _ (by simp; exact hs1)).trans (block_setCell (i := 1) (block_setCell (i := 0) HRS.out _) _))) rfl ?_
    exact ⟨.inr ⟨rfl, rfl⟩, (fin0 _ _ _ HB1.out).alloc (by simp; omega) _⟩
/-- what readVotes answers -/
def RvE (r : Bool) (vs : List Int) (u : ByteArray) (w w' : World) (e : Ending) : Prop := (r = true ∧ ∃ a cap, e = .returned (.tuple #[.slice a vs.length cap, .nilIface]) ∧ Owns w' w.heap.size (.slice a vs.length cap) vs) ∨ (r = false ∧ e = .returned (.tuple #[.slice none 0 0, .iface 64 (.agg #[.string u])]))
set_option maxHeartbeats 2000000 in
set_option maxRecDepth 100000 in
theorem readVotes_any (n : Int) (a : Option Addr) (cap : Nat) (zs vs : List Int) (u : ByteArray) (r : Bool) (w : World) (hi : Ints w a zs) (hV : Valid n zs) (hu : u.size + 2 ≤ 1048576) (hg : GV w) (hvs : (spl 44 u.data.toList).map rdN = vs) (hr : votesB zs vs = r) :
    Calls Tryz.prog 90 #[.agg #[.int .i64 n, .slice a zs.length cap], .string u] w fun e w' => RvE r vs u w w' e ∧ Below w.heap.size w w' := by
  have hVR := votes_read hV hvs
  rw [hr] at hVR
  have HVR := hide hVR
  have hz := valid_len hV
  obtain ⟨o, ho⟩ : ∃ o, prL (spl 44 u.data.toList) = o := ⟨_, rfl⟩
  rw [ho] at HVR
  have HO := hide ho
  have bw := Box.new w n a zs.length cap 37
  have B1 := bel1 w (.cells #[.int .i64 n, .slice a zs.length cap] 37)
  have i1 := hi.below B1
  obtain ⟨_, p0, p1⟩ := bw.pair
  clear hi hV hvs hr hVR ho
  go_enter Tryz.func90, Tryz.ntmps90
  go_wp2_with fail
  refine (parseNumbers_any u o _ (by omega) (hg.below B1) HO.out).mono ?_
  rintro e w2 ⟨hE, hb2⟩
  have B2 := bnext B1 hb2
  rcases hE with ⟨ys, av, cv, rfl, rfl, OV, hyl⟩ | ⟨rfl, rfl⟩
  · have i2 := i1.below hb2
    have bw2 := bw.below hb2
    obtain ⟨_, q0, q1⟩ := bw2.pair
    have j2 := OV.ints
    obtain ⟨q, hq⟩ : ∃ q, vvB n zs ys = q := ⟨_, rfl⟩
    have HQ := hide hq
    have HOV := hide OV
    clear hq OV p0 p1 bw
    cases q with
    | true =>
      obtain ⟨e1, e2⟩ := HVR.out.2.1 ys rfl HQ.out
      subst e1 e2
      have hyl2 : ys.length ≤ 1048576 := by omega
      go_wp2_with fail
      refine (votesI_was _ _ _ _ _ _ _ _ true i2 j2 (by omega) hyl2 HQ.out).mono ?_
      rintro e w3 ⟨rfl, hb3⟩
      have HO3 := hide ((HOV.out.below hb3).le B1.size)
      go_wp2
      go_ret2
      exact ⟨.inl ⟨rfl, av, cv, rfl, HO3.out⟩, bnext B2 hb3⟩
    | false =>
      have e2 := HVR.out.2.2 ys rfl HQ.out
      subst e2
      have hyl2 : ys.length ≤ 1048576 := by omega
      go_wp2_with fail
      refine (votesI_was _ _ _ _ _ _ _ _ false i2 j2 (by omega) hyl2 HQ.out).mono ?_
      rintro e w3 ⟨rfl, hb3⟩
      go_wp2
      go_ret2
      exact ⟨.inr ⟨rfl, rfl⟩, bnext B2 hb3⟩
  · have e2 := HVR.out.1 rfl
    subst e2
    go_wp2
    go_ret2
    exact ⟨.inr ⟨rfl, rfl⟩, B2⟩
/-- what is answered about a text, or a wrongText -/
def AbE (o : Option ByteArray) (e : Ending) : Prop := (∃ S, o = some S ∧ e = .returned (.tuple #[.string S, .nilIface])) ∨ (o = none ∧ ∃ t, e = .returned (.tuple #[.string ⟨#[]⟩, .iface 64 (.agg #[.string t])]))
set_option maxHeartbeats 2000000 in
set_option maxRecDepth 100000 in
theorem aboutCrit_any (t : ByteArray) (w : World) (ht : t.size ≤ 1048576) (hg : GV w) :
    Calls Tryz.prog 52 #[.func (.func 72) #[] #[], .string t] w fun e w' => AbE ((parS t.data.toList).map fun p => (askS wCrit p.1 p.2).getD wrongB) e ∧ Below w.heap.size w w' := by
  obtain ⟨o, ho⟩ : ∃ o, parS t.data.toList = o := ⟨_, rfl⟩
  have HVL : Hid (∀ n zs, o = some (n, zs) → Valid n zs) := fun n zs e => par_valid (ho.trans e)
  have HO := hide ho
  obtain ⟨O, hO⟩ : ∃ O, ((parS t.data.toList).map fun p => (askS wCrit p.1 p.2).getD wrongB) = O := ⟨_, rfl⟩
  rw [hO]
  rw [ho] at hO
  have HOO := hide hO
  clear ho hO
  go_enter Tryz.func52, Tryz.ntmps52
  go_wp2_with fail
  refine (readSpace_any t o _ ht hg HO.out).mono ?_
  rintro e w1 ⟨hE, B1⟩
  rcases hE with ⟨n, zs, a, cap, rfl, rfl, OW⟩ | ⟨rfl, rfl⟩
  · have hV := HVL.out n zs rfl
    have hc := OW.cap_le
    have bw := Box.new w1 n a zs.length cap 37
    have hx := bel1 w1 (.cells #[.int .i64 n, .slice a zs.length cap] 37)
    have i1 := (OW.below hx).ints
    have B2 := bnext B1 hx
    obtain ⟨_, p0, p1⟩ := bw.pair
    obtain ⟨S, hS⟩ : ∃ S, (askS wCrit n zs).getD wrongB = S := ⟨_, rfl⟩
    have HA : Hid (O = some S) := by rw [← hS]; exact HOO.out.symm
    have HS := hide hS
    have HV := hide hV
    clear hV hS OW hx HOO HVL
    go_wp2_with fail
    refine (askCrit_any n S _ _ _ _ i1 hc HV.out HS.out).mono ?_
    rintro e w3 ⟨rfl, hb3⟩
    go_wp2
    go_ret2
    exact ⟨.inl ⟨S, HA.out, rfl⟩, bnext B2 hb3⟩
  · have HA : Hid (O = none) := HOO.out.symm
    go_wp2
    go_ret2
    exact ⟨.inr ⟨HA.out, t, rfl⟩, bnext B1 (bel1 _ _)⟩
set_option maxHeartbeats 2000000 in
set_option maxRecDepth 100000 in
theorem aboutMedn_any (t : ByteArray) (w : World) (ht : t.size ≤ 1048576) (hg : GV w) :
    Calls Tryz.prog 52 #[.func (.func 75) #[] #[], .string t] w fun e w' => AbE ((parS t.data.toList).map fun p => (askS wMedn p.1 p.2).getD wrongB) e ∧ Below w.heap.size w w' := by
  obtain ⟨o, ho⟩ : ∃ o, parS t.data.toList = o := ⟨_, rfl⟩
  have HVL : Hid (∀ n zs, o = some (n, zs) → Valid n zs) := fun n zs e => par_valid (ho.trans e)
  have HO := hide ho
  obtain ⟨O, hO⟩ : ∃ O, ((parS t.data.toList).map fun p => (askS wMedn p.1 p.2).getD wrongB) = O := ⟨_, rfl⟩
  rw [hO]
  rw [ho] at hO
  have HOO := hide hO
  clear ho hO
  go_enter Tryz.func52, Tryz.ntmps52
  go_wp2_with fail
  refine (readSpace_any t o _ ht hg HO.out).mono ?_
  rintro e w1 ⟨hE, B1⟩
  rcases hE with ⟨n, zs, a, cap, rfl, rfl, OW⟩ | ⟨rfl, rfl⟩
  · have hV := HVL.out n zs rfl
    have hc := OW.cap_le
    have bw := Box.new w1 n a zs.length cap 37
    have hx := bel1 w1 (.cells #[.int .i64 n, .slice a zs.length cap] 37)
    have i1 := (OW.below hx).ints
    have B2 := bnext B1 hx
    obtain ⟨_, p0, p1⟩ := bw.pair
    obtain ⟨S, hS⟩ : ∃ S, (askS wMedn n zs).getD wrongB = S := ⟨_, rfl⟩
    have HA : Hid (O = some S) := by rw [← hS]; exact HOO.out.symm
    have HS := hide hS
    have HV := hide hV
    clear hV hS OW hx HOO HVL
    go_wp2_with fail
    refine (askMedn_any n S _ _ _ _ i1 hc HV.out HS.out).mono ?_
    rintro e w3 ⟨rfl, hb3⟩
    go_wp2
    go_ret2
    exact ⟨.inl ⟨S, HA.out, rfl⟩, bnext B2 hb3⟩
  · have HA : Hid (O = none) := HOO.out.symm
    go_wp2
    go_ret2
    exact ⟨.inr ⟨HA.out, t, rfl⟩, bnext B1 (bel1 _ _)⟩
set_option maxHeartbeats 2000000 in
set_option maxRecDepth 100000 in
theorem aboutBlck_any (t : ByteArray) (w : World) (ht : t.size ≤ 1048576) (hg : GV w) :
    Calls Tryz.prog 52 #[.func (.func 78) #[] #[], .string t] w fun e w' => AbE ((parS t.data.toList).map fun p => (askS wBlck p.1 p.2).getD wrongB) e ∧ Below w.heap.size w w' := by
  obtain ⟨o, ho⟩ : ∃ o, parS t.data.toList = o := ⟨_, rfl⟩
  have HVL : Hid (∀ n zs, o = some (n, zs) → Valid n zs) := fun n zs e => par_valid (ho.trans e)
  have HO := hide ho
  obtain ⟨O, hO⟩ : ∃ O, ((parS t.data.toList).map fun p => (askS wBlck p.1 p.2).getD wrongB) = O := ⟨_, rfl⟩
  rw [hO]
  rw [ho] at hO
  have HOO := hide hO
  clear ho hO
  go_enter Tryz.func52, Tryz.ntmps52
  go_wp2_with fail
  refine (readSpace_any t o _ ht hg HO.out).mono ?_
  rintro e w1 ⟨hE, B1⟩
  rcases hE with ⟨n, zs, a, cap, rfl, rfl, OW⟩ | ⟨rfl, rfl⟩
  · have hV := HVL.out n zs rfl
    have hc := OW.cap_le
    have bw := Box.new w1 n a zs.length cap 37
    have hx := bel1 w1 (.cells #[.int .i64 n, .slice a zs.length cap] 37)
    have i1 := (OW.below hx).ints
    have B2 := bnext B1 hx
    obtain ⟨_, p0, p1⟩ := bw.pair
    obtain ⟨S, hS⟩ : ∃ S, (askS wBlck n zs).getD wrongB = S := ⟨_, rfl⟩
    have HA : Hid (O = some S) := by rw [← hS]; exact HOO.out.symm
    have HS := hide hS
    have HV := hide hV
    clear hV hS OW hx HOO HVL
    go_wp2_with fail
    refine (askBlck_any n S _ _ _ _ i1 hc HV.out HS.out).mono ?_
    rintro e w3 ⟨rfl, hb3⟩
    go_wp2
    go_ret2
    exact ⟨.inl ⟨S, HA.out, rfl⟩, bnext B2 hb3⟩
  · have HA : Hid (O = none) := HOO.out.symm
    go_wp2
    go_ret2
    exact ⟨.inr ⟨HA.out, t, rfl⟩, bnext B1 (bel1 _ _)⟩
set_option maxHeartbeats 2000000 in
set_option maxRecDepth 100000 in
theorem aboutMajr_any (t u : ByteArray) (w : World) (ht : t.size ≤ 1048576) (hu : u.size + 2 ≤ 1048576) (hg : GV w) :
    Calls Tryz.prog 54 #[.func (.func 81) #[] #[], .string t, .string u] w fun e w' => AbE ((parS t.data.toList).bind fun p => if votesB p.2 ((spl 44 u.data.toList).map rdN) = true then some ((askV wMajr p.1 p.2 ((spl 44 u.data.toList).map rdN)).getD wrongB) else none) e ∧ Below w.heap.size w w' := by
  obtain ⟨o, ho⟩ : ∃ o, parS t.data.toList = o := ⟨_, rfl⟩
  obtain ⟨vs, hvs⟩ : ∃ vs, (spl 44 u.data.toList).map rdN = vs := ⟨_, rfl⟩
  have HVL : Hid (∀ n zs, o = some (n, zs) → Valid n zs) := fun n zs e => par_valid (ho.trans e)
  have HO := hide ho
  obtain ⟨O, hO⟩ : ∃ O, ((parS t.data.toList).bind fun p => if votesB p.2 ((spl 44 u.data.toList).map rdN) = true then some ((askV wMajr p.1 p.2 ((spl 44 u.data.toList).map rdN)).getD wrongB) else none) = O := ⟨_, rfl⟩
  rw [hO]
  rw [ho, hvs] at hO
  have HOO := hide hO
  have HVS := hide hvs
  clear ho hO hvs
  go_enter Tryz.func54, Tryz.ntmps54
  go_wp2_with fail
  refine (readSpace_any t o _ ht hg HO.out).mono ?_
  rintro e w1 ⟨hE, B1⟩
  rcases hE with ⟨n, zs, a, cap, rfl, rfl, OW⟩ | ⟨rfl, rfl⟩
  · have hV := HVL.out n zs rfl
    have hz := valid_len hV
    have bw := Box.new w1 n a zs.length cap 37
    have hx := bel1 w1 (.cells #[.int .i64 n, .slice a zs.length cap] 37)
    have i1 := (OW.below hx).ints
    have B2 := bnext B1 hx
    obtain ⟨_, p0, p1⟩ := bw.pair
    have HV := hide hV
    obtain ⟨r, hr⟩ : ∃ r, votesB zs vs = r := ⟨_, rfl⟩
    have HR := hide hr
    clear hV hr OW hx HVL
    go_wp2_with fail
    refine (readVotes_any n _ _ _ vs u r _ i1 HV.out hu (hg.below B2) HVS.out HR.out).mono ?_
    rintro e w3 ⟨hE, hb3⟩
    have B3 := bnext B2 hb3
    have bw3 := bw.below hb3
    obtain ⟨_, q0, q1⟩ := bw3.pair
    rcases hE with ⟨rfl, av, cv, rfl, OV⟩ | ⟨rfl, rfl⟩
    · obtain ⟨S, hS⟩ : ∃ S, (askV wMajr n zs vs).getD wrongB = S := ⟨_, rfl⟩
      have HA : Hid (O = some S) := by
        rw [← hS]
        have := HOO.out
        simp only [Option.bind_some, HR.out, if_true] at this
        exact this.symm
      have hvl := (votes_small5 HR.out)
      have HS := hide hS
      have i3 := i1.below hb3
      have j3 := OV.ints
      clear hS OV hb3 p0 p1 HOO
      go_wp2_with fail
      refine (askMajr_any n S _ _ _ _ _ _ _ i3 j3 HV.out (by omega) HR.out HS.out).mono ?_
      rintro e w4 ⟨rfl, hb4⟩
      go_wp2
      go_ret2
      exact ⟨.inl ⟨S, HA.out, rfl⟩, bnext B3 hb4⟩
    · have HA : Hid (O = none) := by
        have := HOO.out
        simp only [Option.bind_some, HR.out] at this
        exact this.symm
      clear HOO
      go_wp2
      go_ret2
      exact ⟨.inr ⟨HA.out, u, rfl⟩, B3⟩
  · have HA : Hid (O = none) := HOO.out.symm
    go_wp2
    go_ret2
    exact ⟨.inr ⟨HA.out, t, rfl⟩, bnext B1 (bel1 _ _)⟩
set_option maxHeartbeats 2000000 in
set_option maxRecDepth 100000 in
theorem aboutMdns_any (t u : ByteArray) (w : World) (ht : t.size ≤ 1048576) (hu : u.size + 2 ≤ 1048576) (hg : GV w) :
    Calls Tryz.prog 54 #[.func (.func 83) #[] #[], .string t, .string u] w fun e w' => AbE ((parS t.data.toList).bind fun p => if votesB p.2 ((spl 44 u.data.toList).map rdN) = true then some ((askV wMdns p.1 p.2 ((spl 44 u.data.toList).map rdN)).getD wrongB) else none) e ∧ Below w.heap.size w w' := by
  obtain ⟨o, ho⟩ : ∃ o, parS t.data.toList = o := ⟨_, rfl⟩
  obtain ⟨vs, hvs⟩ : ∃ vs, (spl 44 u.data.toList).map rdN = vs := ⟨_, rfl⟩
  have HVL : Hid (∀ n zs, o = some (n, zs) → Valid n zs) := fun n zs e => par_valid (ho.trans e)
  have HO := hide ho
  obtain ⟨O, hO⟩ : ∃ O, ((parS t.data.toList).bind fun p => if votesB p.2 ((spl 44 u.data.toList).map rdN) = true then some ((askV wMdns p.1 p.2 ((spl 44 u.data.toList).map rdN)).getD wrongB) else none) = O := ⟨_, rfl⟩
  rw [hO]
  rw [ho, hvs] at hO
  have HOO := hide hO
  have HVS := hide hvs
  clear ho hO hvs
  go_enter Tryz.func54, Tryz.ntmps54
  go_wp2_with fail
  refine (readSpace_any t o _ ht hg HO.out).mono ?_
  rintro e w1 ⟨hE, B1⟩
  rcases hE with ⟨n, zs, a, cap, rfl, rfl, OW⟩ | ⟨rfl, rfl⟩
  · have hV := HVL.out n zs rfl
    have hz := valid_len hV
    have bw := Box.new w1 n a zs.length cap 37
    have hx := bel1 w1 (.cells #[.int .i64 n, .slice a zs.length cap] 37)
    have i1 := (OW.below hx).ints
    have B2 := bnext B1 hx
    obtain ⟨_, p0, p1⟩ := bw.pair
    have HV := hide hV
    obtain ⟨r, hr⟩ : ∃ r, votesB zs vs = r := ⟨_, rfl⟩
    have HR := hide hr
    clear hV hr OW hx HVL
    go_wp2_with fail
    refine (readVotes_any n _ _ _ vs u r _ i1 HV.out hu (hg.below B2) HVS.out HR.out).mono ?_
    rintro e w3 ⟨hE, hb3⟩
    have B3 := bnext B2 hb3
    have bw3 := bw.below hb3
    obtain ⟨_, q0, q1⟩ := bw3.pair
    rcases hE with ⟨rfl, av, cv, rfl, OV⟩ | ⟨rfl, rfl⟩
    · obtain ⟨S, hS⟩ : ∃ S, (askV wMdns n zs vs).getD wrongB = S := ⟨_, rfl⟩
      have HA : Hid (O = some S) := by
        rw [← hS]
        have := HOO.out
        simp only [Option.bind_some, HR.out, if_true] at this
        exact this.symm
      have hvl := (votes_small5 HR.out)
      have HS := hide hS
      have i3 := i1.below hb3
      have j3 := OV.ints
      clear hS OV hb3 p0 p1 HOO
      go_wp2_with fail
      refine (askMdns_any n S _ _ _ _ _ _ _ i3 j3 HV.out (by omega) HR.out HS.out).mono ?_
      rintro e w4 ⟨rfl, hb4⟩
      go_wp2
      go_ret2
      exact ⟨.inl ⟨S, HA.out, rfl⟩, bnext B3 hb4⟩
    · have HA : Hid (O = none) := by
        have := HOO.out
        simp only [Option.bind_some, HR.out] at this
        exact this.symm
      clear HOO
      go_wp2
      go_ret2
      exact ⟨.inr ⟨HA.out, u, rfl⟩, B3⟩
  · have HA : Hid (O = none) := HOO.out.symm
    go_wp2
    go_ret2
    exact ⟨.inr ⟨HA.out, t, rfl⟩, bnext B1 (bel1 _ _)⟩
set_option maxHeartbeats 2000000 in
set_option maxRecDepth 100000 in
theorem aboutSlat_any (t u : ByteArray) (w : World) (ht : t.size ≤ 1048576) (hu : u.size + 2 ≤ 1048576) (hg : GV w) :
    Calls Tryz.prog 54 #[.func (.func 86) #[] #[], .string t, .string u] w fun e w' => AbE ((parS t.data.toList).bind fun p => if votesB p.2 ((spl 44 u.data.toList).map rdN) = true then some ((askV wSlat p.1 p.2 ((spl 44 u.data.toList).map rdN)).getD wrongB) else none) e ∧ Below w.heap.size w w' := by
  obtain ⟨o, ho⟩ : ∃ o, parS t.data.toList = o := ⟨_, rfl⟩
  obtain ⟨vs, hvs⟩ : ∃ vs, (spl 44 u.data.toList).map rdN = vs := ⟨_, rfl⟩
  have HVL : Hid (∀ n zs, o = some (n, zs) → Valid n zs) := fun n zs e => par_valid (ho.trans e)
  have HO := hide ho
  obtain ⟨O, hO⟩ : ∃ O, ((parS t.data.toList).bind fun p => if votesB p.2 ((spl 44 u.data.toList).map rdN) = true then some ((askV wSlat p.1 p.2 ((spl 44 u.data.toList).map rdN)).getD wrongB) else none) = O := ⟨_, rfl⟩
  rw [hO]
  rw [ho, hvs] at hO
  have HOO := hide hO
  have HVS := hide hvs
  clear ho hO hvs
  go_enter Tryz.func54, Tryz.ntmps54
  go_wp2_with fail
  refine (readSpace_any t o _ ht hg HO.out).mono ?_
  rintro e w1 ⟨hE, B1⟩
  rcases hE with ⟨n, zs, a, cap, rfl, rfl, OW⟩ | ⟨rfl, rfl⟩
  · have hV := HVL.out n zs rfl
    have hz := valid_len hV
    have bw := Box.new w1 n a zs.length cap 37
    have hx := bel1 w1 (.cells #[.int .i64 n, .slice a zs.length cap] 37)
    have i1 := (OW.below hx).ints
    have B2 := bnext B1 hx
    obtain ⟨_, p0, p1⟩ := bw.pair
    have HV := hide hV
    obtain ⟨r, hr⟩ : ∃ r, votesB zs vs = r := ⟨_, rfl⟩
    have HR := hide hr
    clear hV hr OW hx HVL
    go_wp2_with fail
    refine (readVotes_any n _ _ _ vs u r _ i1 HV.out hu (hg.below B2) HVS.out HR.out).mono ?_
    rintro e w3 ⟨hE, hb3⟩
    have B3 := bnext B2 hb3
    have bw3 := bw.below hb3
    obtain ⟨_, q0, q1⟩ := bw3.pair
    rcases hE with ⟨rfl, av, cv, rfl, OV⟩ | ⟨rfl, rfl⟩
    · obtain ⟨S, hS⟩ : ∃ S, (askV wSlat n zs vs).getD wrongB = S := ⟨_, rfl⟩
      have HA : Hid (O = some S) := by
        rw [← hS]
        have := HOO.out
        simp only [Option.bind_some, HR.out, if_true] at this
        exact this.symm
      have hvl := (votes_small5 HR.out)
      have HS := hide hS
      have i3 := i1.below hb3
      have j3 := OV.ints
      clear hS OV hb3 p0 p1 HOO
      go_wp2_with fail
      refine (askSlat_any n S _ _ _ _ _ _ _ i3 j3 HV.out (by omega) HR.out HS.out).mono ?_
      rintro e w4 ⟨rfl, hb4⟩
      go_wp2
      go_ret2
      exact ⟨.inl ⟨S, HA.out, rfl⟩, bnext B3 hb4⟩
    · have HA : Hid (O = none) := by
        have := HOO.out
        simp only [Option.bind_some, HR.out] at this
        exact this.symm
      clear HOO
      go_wp2
      go_ret2
      exact ⟨.inr ⟨HA.out, u, rfl⟩, B3⟩
  · have HA : Hid (O = none) := HOO.out.symm
    go_wp2
    go_ret2
    exact ⟨.inr ⟨HA.out, t, rfl⟩, bnext B1 (bel1 _ _)⟩
set_option maxHeartbeats 2000000 in
set_option maxRecDepth 100000 in
theorem aboutRank_any (t u : ByteArray) (w : World) (ht : t.size ≤ 1048576) (hu : u.size + 2 ≤ 1048576) (hg : GV w) :
    Calls Tryz.prog 54 #[.func (.func 88) #[] #[], .string t, .string u] w fun e w' => AbE ((parS t.data.toList).bind fun p => if votesB p.2 ((spl 44 u.data.toList).map rdN) = true then some ((askV wRank p.1 p.2 ((spl 44 u.data.toList).map rdN)).getD wrongB) else none) e ∧ Below w.heap.size w w' := by
  obtain ⟨o, ho⟩ : ∃ o, parS t.data.toList = o := ⟨_, rfl⟩
  obtain ⟨vs, hvs⟩ : ∃ vs, (spl 44 u.data.toList).map rdN = vs := ⟨_, rfl⟩
  have HVL : Hid (∀ n zs, o = some (n, zs) → Valid n zs) := fun n zs e => par_valid (ho.trans e)
  have HO := hide ho
  obtain ⟨O, hO⟩ : ∃ O, ((parS t.data.toList).bind fun p => if votesB p.2 ((spl 44 u.data.toList).map rdN) = true then some ((askV wRank p.1 p.2 ((spl 44 u.data.toList).map rdN)).getD wrongB) else none) = O := ⟨_, rfl⟩
  rw [hO]
  rw [ho, hvs] at hO
  have HOO := hide hO
  have HVS := hide hvs
  clear ho hO hvs
  go_enter Tryz.func54, Tryz.ntmps54
  go_wp2_with fail
  refine (readSpace_any t o _ ht hg HO.out).mono ?_
  rintro e w1 ⟨hE, B1⟩
  rcases hE with ⟨n, zs, a, cap, rfl, rfl, OW⟩ | ⟨rfl, rfl⟩
  · have hV := HVL.out n zs rfl
    have hz := valid_len hV
    have bw := Box.new w1 n a zs.length cap 37
    have hx := bel1 w1 (.cells #[.int .i64 n, .slice a zs.length cap] 37)
    have i1 := (OW.below hx).ints
    have B2 := bnext B1 hx
    obtain ⟨_, p0, p1⟩ := bw.pair
    have HV := hide hV
    obtain ⟨r, hr⟩ : ∃ r, votesB zs vs = r := ⟨_, rfl⟩
    have HR := hide hr
    clear hV hr OW hx HVL
    go_wp2_with fail
    refine (readVotes_any n _ _ _ vs u r _ i1 HV.out hu (hg.below B2) HVS.out HR.out).mono ?_
    rintro e w3 ⟨hE, hb3⟩
    have B3 := bnext B2 hb3
    have bw3 := bw.below hb3
    obtain ⟨_, q0, q1⟩ := bw3.pair
    rcases hE with ⟨rfl, av, cv, rfl, OV⟩ | ⟨rfl, rfl⟩
    · obtain ⟨S, hS⟩ : ∃ S, (askV wRank n zs vs).getD wrongB = S := ⟨_, rfl⟩
      have HA : Hid (O = some S) := by
        rw [← hS]
        have := HOO.out
        simp only [Option.bind_some, HR.out, if_true] at this
        exact this.symm
      have hvl := (votes_small5 HR.out)
      have HS := hide hS
      have i3 := i1.below hb3
      have j3 := OV.ints
      clear hS OV hb3 p0 p1 HOO
      go_wp2_with fail
      refine (askRank_any n S _ _ _ _ _ _ _ i3 j3 HV.out (by omega) HR.out HS.out).mono ?_
      rintro e w4 ⟨rfl, hb4⟩
      go_wp2
      go_ret2
      exact ⟨.inl ⟨S, HA.out, rfl⟩, bnext B3 hb4⟩
    · have HA : Hid (O = none) := by
        have := HOO.out
        simp only [Option.bind_some, HR.out] at this
        exact this.symm
      clear HOO
      go_wp2
      go_ret2
      exact ⟨.inr ⟨HA.out, u, rfl⟩, B3⟩
  · have HA : Hid (O = none) := HOO.out.symm
    go_wp2
    go_ret2
    exact ⟨.inr ⟨HA.out, t, rfl⟩, bnext B1 (bel1 _ _)⟩
end Go.Proofs.YtgebplpbnaeckaaGreatDoor
