/- Texts of this seat one behind the other: DskR, GvD, Spare, SlaR. Conditions: none. -/
import Derived.Test.YtgebplpbnaeckaaGreatDoorMg23
import Derived.Test.YtgebplpbnaeckaaGreatDoorMg13
import Derived.Test.YtgebplpbnaeckaaGreatDoorMg14
import Derived.Test.YtgebplpbnaeckaaGreatDoorRows
import Derived.Test.YtgebplpbnaeckaaGreatDoorMg02
import Derived.Test.YtgebplpbnaeckaaGreatDoorMg15
import Derived.BigQuiet
import Derived.Deep.RegionWith
import Derived.Lib.LaidTab
import Derived.Stop.LaidErr
import Derived.LaidMore
import Derived.Stop.Joined
import Derived.MakeChecks
import Derived.HandedShaped
import Derived.LaidHandle
import Derived.Deep.DeepAppendRoom
import Derived.Deep.RegionHeld3
import Derived.Outline

/- DskR: The desk of the program: the answer to a line. -/
namespace Go.Proofs.YtgebplpbnaeckaaGreatDoor
open Go.RowKit Go.Joins

/-- what the program's variables hold that the desk reads -/
structure DV (w : World) : Prop where
  gv : GV w
  et : w.cell? ⟨1, 0, none⟩ = some (.iface 119 (.agg #[.pointer (some ⟨10, 49, none⟩)]))
  nq : ∃ a : Addr, w.cell? ⟨0, 0, none⟩ = some (.iface 221 (.pointer (some a)))
theorem DV.below {w w' : World} (h : DV w) (hb : Below w.heap.size w w') : DV w' := by
  obtain ⟨h1, h2, a, h3⟩ := h
  exact ⟨h1.below hb, (hb.cell (p := ⟨1, 0, none⟩) (World.block_lt_of_cell? w ⟨1, 0, none⟩ h2)).trans h2, a, (hb.cell (p := ⟨0, 0, none⟩) (World.block_lt_of_cell? w ⟨0, 0, none⟩ h3)).trans h3⟩
theorem split_was (s : ByteArray) (w : World) (hs : s.size ≤ 1048576) (hg : GV w) :
    Calls Tryz.prog 50 #[.string s, .string ⟨#[32]⟩] w fun e w' => (∃ (ps : List ByteArray) (g : Nat), e = .returned (.slice (some ⟨g, 0, none⟩) ps.length ps.length) ∧ w.heap.size ≤ g ∧ g < w'.heap.size ∧ (∀ k (hk : k < ps.length), w'.cell? ⟨g, k, none⟩ = some (.string ps[k])) ∧ ps.map (·.data.toList) = spl 32 s.data.toList ∧ ps.length ≤ s.size + 1) ∧ Below w.heap.size w w' := by
  obtain ⟨m, hm⟩ := hg.ml
  obtain ⟨ps, hps⟩ : ∃ ps, ps = Lib.splitB ⟨#[32]⟩ 0 (Lib.countB s ⟨#[32]⟩) s := ⟨_, rfl⟩
  have hlen : ps.length = Lib.countB s ⟨#[32]⟩ + 1 := by rw [hps]; exact Lib.splitB_all ⟨#[32]⟩ (Nat.le_refl _) 0 _ s rfl
  have hcl : Lib.countB s ⟨#[32]⟩ ≤ s.size := Lib.countB_le ⟨#[32]⟩ (Nat.le_refl _) s.size s (Nat.le_refl _)
  refine (Tryz.strings_Split s ⟨#[32]⟩ m w (by omega) hm (Nat.le_refl _)).mono ?_
  rintro e w' ⟨rfl, rfl⟩
  rw [← hps, ← hlen]
  refine ⟨⟨ps, w.heap.size, rfl, Nat.le_refl _, by simp, fun k hk => ?_, by rw [hps]; exact split_spl 32 s.size s (Nat.le_refl _), by omega⟩, bel1 _ _⟩
  rw [cell_of_block (heap_alloc_new w _) k]
  simp [hk]
/-- what answerTo answers -/
def AnE (R : ByteArray) (e : Ending) : Prop := (e = .returned (.tuple #[.string R, .nilIface])) ∨ (R = wrongB ∧ ∃ x t, e = .returned (.tuple #[.string x, .iface 64 (.agg #[.string t])])) ∨ (R = whatB ∧ ∃ x a, e = .returned (.tuple #[.string x, .iface 221 (.pointer (some a))]))
theorem look_some {t e : TypeId} {D : DataW Unit} {w : World} {b n : Nat} (ht : Tryz.prog.underlying t = some (.map 9 e)) (hz : ∀ w, (zeroValue e).run Tryz.prog w = .ok .nilFunc w) (h : w.ownsMap Tryz.prog 9 fnElem b n D) (s : ByteArray) (hs : s.size ≤ 1048576) :
    ∃ (v : Value) (q : Bool), (Instr.lookup t (.map (some b)) (.string s) true).run Tryz.prog w = .ok (.tuple #[v, .bool q]) w := by
  obtain ⟨v, ps, hrun, hv⟩ := h.look_ok strKeyed ht (hz w) fnElem_nil (str_key s (by unfold maxLen; omega))
  exact ⟨v, _, hrun⟩
theorem AbE.form {o : Option ByteArray} {e : Ending} (h : AbE o e) : ∃ S ev, e = .returned (.tuple #[.string S, ev]) ∧ ((o = some S ∧ ev = .nilIface) ∨ (o = none ∧ ∃ t, ev = .iface 64 (.agg #[.string t]))) := by
  rcases h with ⟨S, hO, rfl⟩ | ⟨hO, x, rfl⟩
  · exact ⟨S, _, rfl, .inl ⟨hO, rfl⟩⟩
  · exact ⟨_, _, rfl, .inr ⟨hO, x, rfl⟩⟩
theorem anE_of {R : ByteArray} {o : Option ByteArray} {S : ByteArray} {ev : Value} (h : R = o.getD wrongB) (hP : (o = some S ∧ ev = .nilIface) ∨ (o = none ∧ ∃ t, ev = .iface 64 (.agg #[.string t]))) : AnE R (.returned (.tuple #[.string S, ev])) := by
  rcases hP with ⟨rfl, rfl⟩ | ⟨rfl, t, rfl⟩
  · exact .inl (by rw [h]; rfl)
  · exact .inr (.inl ⟨h, S, t, rfl⟩)
theorem three (a x y z : ByteArray) : a = x ∨ a = y ∨ a = z ∨ (¬ a = x ∧ ¬ a = y ∧ ¬ a = z) := by
  by_cases h1 : a = x
  · exact .inl h1
  by_cases h2 : a = y
  · exact .inr (.inl h2)
  by_cases h3 : a = z
  · exact .inr (.inr (.inl h3))
  exact .inr (.inr (.inr ⟨h1, h2, h3⟩))
theorem fourW (a x y z u : ByteArray) : a = x ∨ a = y ∨ a = z ∨ a = u ∨ (¬ a = x ∧ ¬ a = y ∧ ¬ a = z ∧ ¬ a = u) := by
  rcases three a x y z with h | h | h | ⟨h1, h2, h3⟩
  · exact .inl h
  · exact .inr (.inl h)
  · exact .inr (.inr (.inl h))
  by_cases h4 : a = u
  · exact .inr (.inr (.inr (.inl h4)))
  exact .inr (.inr (.inr (.inr ⟨h1, h2, h3, h4⟩)))
theorem ansS_of {w t : ByteArray} (hw : isS w = true) : ansP [w, t] = (((parS t.data.toList).map fun p => (askS w p.1 p.2).getD wrongB).getD wrongB) := by
  cases h : parS t.data.toList with
  | none => rw [ansP_none h hw]; rfl
  | some p => obtain ⟨n, zs⟩ := p; rw [ansP_some h hw]; rfl
theorem ansV_of {w t u : ByteArray} (hw : isV w = true) : ansP [w, t, u] = (((parS t.data.toList).bind fun p => if votesB p.2 ((spl 44 u.data.toList).map rdN) = true then some ((askV w p.1 p.2 ((spl 44 u.data.toList).map rdN)).getD wrongB) else none).getD wrongB) := by
  cases h : parS t.data.toList with
  | none => rw [ansP_none3 h hw]; rfl
  | some p =>
    obtain ⟨n, zs⟩ := p
    cases hv : votesB zs ((spl 44 u.data.toList).map rdN) with
    | true => rw [ansP_some3 h hv hw]; simp [hv]
    | false => rw [ansP_bad3 h hv hw]; simp [hv]
theorem three_pcs {c : UInt8} {l p q r : List UInt8} (h : [p, q, r] = spl c l) : r.length + 2 ≤ l.length := by
  have h1 := join_spl c l
  rw [← h, join_cc, join_cc, Lib.join_one] at h1
  rw [← h1]
  simp only [List.length_append, List.length_cons, List.length_nil]
  omega
theorem tl_ne2 {a : ByteArray} {l : List UInt8} (h : ¬ a = ⟨l.toArray⟩) : (a.toList == l) = false := by
  rw [beq_eq_false_iff_ne]
  intro e
  rw [ByteArray.toList_eq] at e
  exact h (by rw [← e])
theorem bdrewN {w w1 : World} {k : Nat} (h : Below w.heap.size w w1) : Below w.heap.size w (w1.drewN k) := ⟨h.os, h.tape, h.output, h.size, h.block⟩
set_option maxHeartbeats 8000000 in
set_option maxRecDepth 100000 in
theorem answerTo_any (s : ByteArray) (w : World) (hs : s.size ≤ 1048576) (hd : DV w) :
    Calls Tryz.prog 32 #[.string s] w fun e w' => AnE (ansL s.data.toList) e ∧ Below w.heap.size w w' := by
  go_enter Tryz.func32, Tryz.ntmps32
  go_wp2_with fail
  refine (split_was s _ hs hd.gv).mono ?_
  rintro e w1 ⟨⟨ps, g, rfl, hg1, hg2, hcell, hps, hpl⟩, B1⟩
  have HN := hide (ansL_of hps)
  have hsm := pieces_small hps hs
  have h3p : ∀ x y z : ByteArray, ps = [x, y, z] → z.size + 2 ≤ 1048576 := fun x y z e => by
    subst e
    have h3 := three_pcs (p := x.data.toList) (q := y.data.toList) (r := z.data.toList) hps
    rw [Array.length_toList, Array.length_toList] at h3
    exact Nat.le_trans h3 hs
  have hpos := spl_pos hps
  clear hps
  rcases ps with _ | ⟨a, _ | ⟨t, _ | ⟨u, _ | ⟨x, r⟩⟩⟩⟩
  · exact absurd hpos (by simp)
  · have c0 := hcell 0 (by simp)
    simp only [List.getElem_cons_zero] at c0
    rw [show [a].length = 1 from rfl]
    clear hcell hpos h3p
    have haa := hsm a (by simp)
    clear hsm
    go_wp2_with fail
    go_quiet (fail)
    obtain ⟨W, hW⟩ : ∃ W, W = w1.drewN nq := ⟨_, rfl⟩
    rw [← hW]
    have BW : Below w.heap.size w W := by rw [hW]; exact bdrewN B1
    have dW : DV W := hd.below BW
    have dc0 : W.cell? ⟨g, 0, none⟩ = some (.string a) := by rw [hW]; exact c0
    have hgW : g < W.heap.size := by rw [hW]; exact hg2
    clear hW B1 hd c0 hg2
    go_wp2_with fail
    refine (spaceQuestions_any W).mono ?_
    rintro e w2 ⟨rfl, HM, hb2⟩
    have B2 := bnext BW hb2
    have d2 := dW.below hb2
    have e0 := (hb2.cell (p := ⟨g, 0, none⟩) hgW).trans dc0
    have hg2 : g < w2.heap.size := Nat.lt_of_lt_of_le hgW hb2.size
    clear BW dW hgW hb2 dc0
    obtain ⟨v2, q2, hl2⟩ := look_some Tryz.underlying85 zeroFnS HM a haa
    cases q2 with
    | true =>
      go_wp2_with fail
      refine (votesQuestions_any w2).mono ?_
      rintro e w3 ⟨rfl, HM3, hb3⟩
      have B3 := bnext B2 hb3
      have d3 := d2.below hb3
      have f0 := (hb3.cell (p := ⟨g, 0, none⟩) hg2).trans e0
      clear B2 d2 hb3 HM e0
      obtain ⟨v3, q3, hl3⟩ := look_some Tryz.underlying90 zeroFnV HM3 a haa
      clear HM3
      cases q3 with
      | true =>
        have HA : Hid (ansL s.data.toList = whatB) := HN.out.trans (ansP_one a)
        obtain ⟨ea, hea⟩ := d3.nq
        go_wp2_with fail
        go_quiet (fail)
        go_wp2
        go_ret2
        exact ⟨.inr (.inr ⟨HA.out, _, ea, rfl⟩), bdrewN B3⟩
      | false =>
        have HA : Hid (ansL s.data.toList = whatB) := HN.out.trans (ansP_one a)
        obtain ⟨ea, hea⟩ := d3.nq
        go_wp2_with fail
        go_quiet (fail)
        go_wp2
        go_ret2
        exact ⟨.inr (.inr ⟨HA.out, _, ea, rfl⟩), bdrewN B3⟩
    | false =>
      go_wp2_with fail
      refine (votesQuestions_any w2).mono ?_
      rintro e w3 ⟨rfl, HM3, hb3⟩
      have B3 := bnext B2 hb3
      have d3 := d2.below hb3
      have f0 := (hb3.cell (p := ⟨g, 0, none⟩) hg2).trans e0
      clear B2 d2 hb3 HM e0
      obtain ⟨v3, q3, hl3⟩ := look_some Tryz.underlying90 zeroFnV HM3 a haa
      clear HM3
      cases q3 with
      | true =>
        have HA : Hid (ansL s.data.toList = whatB) := HN.out.trans (ansP_one a)
        obtain ⟨ea, hea⟩ := d3.nq
        go_wp2_with fail
        go_quiet (fail)
        go_wp2
        go_ret2
        exact ⟨.inr (.inr ⟨HA.out, _, ea, rfl⟩), bdrewN B3⟩
      | false =>
        have HA : Hid (ansL s.data.toList = whatB) := HN.out.trans (ansP_one a)
        obtain ⟨ea, hea⟩ := d3.nq
        go_wp2_with fail
        go_quiet (fail)
        go_wp2
        go_ret2
        exact ⟨.inr (.inr ⟨HA.out, _, ea, rfl⟩), bdrewN B3⟩
  · have c0 := hcell 0 (by simp)
    have c1 := hcell 1 (by simp)
    simp only [List.getElem_cons_zero, List.getElem_cons_succ] at c0 c1
    rw [show [a, t].length = 2 from rfl]
    have htt := hsm t (by simp)
    clear hcell hpos h3p
    have haa := hsm a (by simp)
    clear hsm
    go_wp2_with fail
    go_quiet (fail)
    obtain ⟨W, hW⟩ : ∃ W, W = w1.drewN nq := ⟨_, rfl⟩
    rw [← hW]
    have BW : Below w.heap.size w W := by rw [hW]; exact bdrewN B1
    have dW : DV W := hd.below BW
    have dc0 : W.cell? ⟨g, 0, none⟩ = some (.string a) := by rw [hW]; exact c0
    have dc1 : W.cell? ⟨g, 1, none⟩ = some (.string t) := by rw [hW]; exact c1
    have hgW : g < W.heap.size := by rw [hW]; exact hg2
    clear hW B1 hd c0 c1 hg2
    go_wp2_with fail
    refine (spaceQuestions_any W).mono ?_
    rintro e w2 ⟨rfl, HM, hb2⟩
    have B2 := bnext BW hb2
    have d2 := dW.below hb2
    have e0 := (hb2.cell (p := ⟨g, 0, none⟩) hgW).trans dc0
    have e1 := (hb2.cell (p := ⟨g, 1, none⟩) hgW).trans dc1
    have hg2 : g < w2.heap.size := Nat.lt_of_lt_of_le hgW hb2.size
    clear BW dW hgW hb2 dc0 dc1
    rcases three a ⟨#[99, 114, 105, 116, 105, 99, 97, 108]⟩ ⟨#[109, 101, 100, 105, 97, 110]⟩ ⟨#[98, 108, 111, 99, 107, 101, 100]⟩ with rfl | rfl | rfl | ⟨h1, h2, h3⟩
    · have hl2 := look_yes Tryz.underlying85 zeroFnS HM ⟨#[99, 114, 105, 116, 105, 99, 97, 108]⟩ 72 (by decide) mapS_crit.1 mapS_crit.2
      clear HM
      go_wp2_with fail
      refine (aboutCrit_any t _ htt d2.gv).mono ?_
      rintro e w4 ⟨hE, hb4⟩
      rcases hE with ⟨S, hO, rfl⟩ | ⟨hO, x, rfl⟩
      · have HA : Hid (ansL s.data.toList = S) := HN.out.trans ((ansS_of (w := ⟨#[99, 114, 105, 116, 105, 99, 97, 108]⟩) (t := t) rfl).trans (by rw [hO]; rfl))
        clear hO
        go_wp2
        go_ret2
        exact ⟨.inl (by rw [HA.out]; rfl), bnext B2 hb4⟩
      · have HA : Hid (ansL s.data.toList = wrongB) := HN.out.trans ((ansS_of (w := ⟨#[99, 114, 105, 116, 105, 99, 97, 108]⟩) (t := t) rfl).trans (by rw [hO]; rfl))
        clear hO
        go_wp2
        go_ret2
        exact ⟨.inr (.inl ⟨HA.out, _, x, rfl⟩), bnext B2 hb4⟩
    · have hl2 := look_yes Tryz.underlying85 zeroFnS HM ⟨#[109, 101, 100, 105, 97, 110]⟩ 75 (by decide) mapS_medn.1 mapS_medn.2
      clear HM
      go_wp2_with fail
      refine (aboutMedn_any t _ htt d2.gv).mono ?_
      rintro e w4 ⟨hE, hb4⟩
      rcases hE with ⟨S, hO, rfl⟩ | ⟨hO, x, rfl⟩
      · have HA : Hid (ansL s.data.toList = S) := HN.out.trans ((ansS_of (w := ⟨#[109, 101, 100, 105, 97, 110]⟩) (t := t) rfl).trans (by rw [hO]; rfl))
        clear hO
        go_wp2
        go_ret2
        exact ⟨.inl (by rw [HA.out]; rfl), bnext B2 hb4⟩
      · have HA : Hid (ansL s.data.toList = wrongB) := HN.out.trans ((ansS_of (w := ⟨#[109, 101, 100, 105, 97, 110]⟩) (t := t) rfl).trans (by rw [hO]; rfl))
        clear hO
        go_wp2
        go_ret2
        exact ⟨.inr (.inl ⟨HA.out, _, x, rfl⟩), bnext B2 hb4⟩
    · have hl2 := look_yes Tryz.underlying85 zeroFnS HM ⟨#[98, 108, 111, 99, 107, 101, 100]⟩ 78 (by decide) mapS_blck.1 mapS_blck.2
      clear HM
      go_wp2_with fail
      refine (aboutBlck_any t _ htt d2.gv).mono ?_
      rintro e w4 ⟨hE, hb4⟩
      rcases hE with ⟨S, hO, rfl⟩ | ⟨hO, x, rfl⟩
      · have HA : Hid (ansL s.data.toList = S) := HN.out.trans ((ansS_of (w := ⟨#[98, 108, 111, 99, 107, 101, 100]⟩) (t := t) rfl).trans (by rw [hO]; rfl))
        clear hO
        go_wp2
        go_ret2
        exact ⟨.inl (by rw [HA.out]; rfl), bnext B2 hb4⟩
      · have HA : Hid (ansL s.data.toList = wrongB) := HN.out.trans ((ansS_of (w := ⟨#[98, 108, 111, 99, 107, 101, 100]⟩) (t := t) rfl).trans (by rw [hO]; rfl))
        clear hO
        go_wp2
        go_ret2
        exact ⟨.inr (.inl ⟨HA.out, _, x, rfl⟩), bnext B2 hb4⟩
    · have HAP := hide (ansP_what (t := t) (isS_no h1 h2 h3))
      have hl2 := look_no Tryz.underlying85 zeroFnS HM a haa (mapS_none h1 h2 h3).1 (mapS_none h1 h2 h3).2
      clear h1 h2 h3
      go_wp2_with fail
      refine (votesQuestions_any w2).mono ?_
      rintro e w3 ⟨rfl, HM3, hb3⟩
      have B3 := bnext B2 hb3
      have d3 := d2.below hb3
      have f0 := (hb3.cell (p := ⟨g, 0, none⟩) hg2).trans e0
      have f1 := (hb3.cell (p := ⟨g, 1, none⟩) hg2).trans e1
      clear B2 d2 hb3 HM e0 e1
      obtain ⟨v3, q3, hl3⟩ := look_some Tryz.underlying90 zeroFnV HM3 a haa
      clear HM3
      cases q3 with
      | true =>
        have HA : Hid (ansL s.data.toList = whatB) := HN.out.trans HAP.out
        obtain ⟨ea, hea⟩ := d3.nq
        go_wp2_with fail
        go_quiet (fail)
        go_wp2
        go_ret2
        exact ⟨.inr (.inr ⟨HA.out, _, ea, rfl⟩), bdrewN B3⟩
      | false =>
        have HA : Hid (ansL s.data.toList = whatB) := HN.out.trans HAP.out
        obtain ⟨ea, hea⟩ := d3.nq
        go_wp2_with fail
        go_quiet (fail)
        go_wp2
        go_ret2
        exact ⟨.inr (.inr ⟨HA.out, _, ea, rfl⟩), bdrewN B3⟩
  · have c0 := hcell 0 (by simp)
    have c1 := hcell 1 (by simp)
    have c2 := hcell 2 (by simp)
    simp only [List.getElem_cons_zero, List.getElem_cons_succ] at c0 c1 c2
    rw [show [a, t, u].length = 3 from rfl]
    have htt := hsm t (by simp)
    have hu2 := h3p a t u rfl
    clear hcell hpos h3p
    have haa := hsm a (by simp)
    clear hsm
    go_wp2_with fail
    go_quiet (fail)
    obtain ⟨W, hW⟩ : ∃ W, W = w1.drewN nq := ⟨_, rfl⟩
    rw [← hW]
    have BW : Below w.heap.size w W := by rw [hW]; exact bdrewN B1
    have dW : DV W := hd.below BW
    have dc0 : W.cell? ⟨g, 0, none⟩ = some (.string a) := by rw [hW]; exact c0
    have dc1 : W.cell? ⟨g, 1, none⟩ = some (.string t) := by rw [hW]; exact c1
    have dc2 : W.cell? ⟨g, 2, none⟩ = some (.string u) := by rw [hW]; exact c2
    have hgW : g < W.heap.size := by rw [hW]; exact hg2
    clear hW B1 hd c0 c1 c2 hg2
    go_wp2_with fail
    refine (spaceQuestions_any W).mono ?_
    rintro e w2 ⟨rfl, HM, hb2⟩
    have B2 := bnext BW hb2
    have d2 := dW.below hb2
    have e0 := (hb2.cell (p := ⟨g, 0, none⟩) hgW).trans dc0
    have e1 := (hb2.cell (p := ⟨g, 1, none⟩) hgW).trans dc1
    have e2 := (hb2.cell (p := ⟨g, 2, none⟩) hgW).trans dc2
    have hg2 : g < w2.heap.size := Nat.lt_of_lt_of_le hgW hb2.size
    clear BW dW hgW hb2 dc0 dc1 dc2
    obtain ⟨v2, q2, hl2⟩ := look_some Tryz.underlying85 zeroFnS HM a haa
    cases q2 with
    | true =>
      go_wp2_with fail
      refine (votesQuestions_any w2).mono ?_
      rintro e w3 ⟨rfl, HM3, hb3⟩
      have B3 := bnext B2 hb3
      have d3 := d2.below hb3
      have f0 := (hb3.cell (p := ⟨g, 0, none⟩) hg2).trans e0
      have f1 := (hb3.cell (p := ⟨g, 1, none⟩) hg2).trans e1
      have f2 := (hb3.cell (p := ⟨g, 2, none⟩) hg2).trans e2
      clear B2 d2 hb3 HM e0 e1 e2
      rcases fourW a ⟨#[109, 97, 106, 111, 114, 105, 116, 121]⟩ ⟨#[109, 101, 100, 105, 97, 110, 115]⟩ ⟨#[115, 108, 97, 116, 101, 114]⟩ ⟨#[114, 97, 110, 107, 101, 100]⟩ with rfl | rfl | rfl | rfl | ⟨h1, h2, h3, h4⟩
      · have hl3 := look_yes Tryz.underlying90 zeroFnV HM3 ⟨#[109, 97, 106, 111, 114, 105, 116, 121]⟩ 81 (by decide) mapV_majr.1 mapV_majr.2
        clear HM3
        have HAB := hide (fun W hg => aboutMajr_any t u W htt hu2 hg)
        have HAN := hide (ansV_of (w := ⟨#[109, 97, 106, 111, 114, 105, 116, 121]⟩) (t := t) (u := u) rfl)
        go_wp2_with fail
        go_region_with (first | (go_at_call 54; refine (HAB.out _ (d3.gv.drew)).mono ?_; rintro e w4 ⟨hE, hb4⟩; obtain ⟨S, ev, rfl, hP⟩ := hE.form))
        all_goals (go_wp2; go_ret2)
        all_goals (refine ⟨anE_of (HN.out.trans HAN.out) hP, bnext (bdrew' B3) hb4⟩)
      · have hl3 := look_yes Tryz.underlying90 zeroFnV HM3 ⟨#[109, 101, 100, 105, 97, 110, 115]⟩ 83 (by decide) mapV_mdns.1 mapV_mdns.2
        clear HM3
        have HAB := hide (fun W hg => aboutMdns_any t u W htt hu2 hg)
        have HAN := hide (ansV_of (w := ⟨#[109, 101, 100, 105, 97, 110, 115]⟩) (t := t) (u := u) rfl)
        go_wp2_with fail
        go_region_with (first | (go_at_call 54; refine (HAB.out _ (d3.gv.drew)).mono ?_; rintro e w4 ⟨hE, hb4⟩; obtain ⟨S, ev, rfl, hP⟩ := hE.form))
        all_goals (go_wp2; go_ret2)
        all_goals (refine ⟨anE_of (HN.out.trans HAN.out) hP, bnext (bdrew' B3) hb4⟩)
      · have hl3 := look_yes Tryz.underlying90 zeroFnV HM3 ⟨#[115, 108, 97, 116, 101, 114]⟩ 86 (by decide) mapV_slat.1 mapV_slat.2
        clear HM3
        have HAB := hide (fun W hg => aboutSlat_any t u W htt hu2 hg)
        have HAN := hide (ansV_of (w := ⟨#[115, 108, 97, 116, 101, 114]⟩) (t := t) (u := u) rfl)
        go_wp2_with fail
        go_region_with (first | (go_at_call 54; refine (HAB.out _ (d3.gv.drew)).mono ?_; rintro e w4 ⟨hE, hb4⟩; obtain ⟨S, ev, rfl, hP⟩ := hE.form))
        all_goals (go_wp2; go_ret2)
        all_goals (refine ⟨anE_of (HN.out.trans HAN.out) hP, bnext (bdrew' B3) hb4⟩)
      · have hl3 := look_yes Tryz.underlying90 zeroFnV HM3 ⟨#[114, 97, 110, 107, 101, 100]⟩ 88 (by decide) mapV_rank.1 mapV_rank.2
        clear HM3
        have HAB := hide (fun W hg => aboutRank_any t u W htt hu2 hg)
        have HAN := hide (ansV_of (w := ⟨#[114, 97, 110, 107, 101, 100]⟩) (t := t) (u := u) rfl)
        go_wp2_with fail
        go_region_with (first | (go_at_call 54; refine (HAB.out _ (d3.gv.drew)).mono ?_; rintro e w4 ⟨hE, hb4⟩; obtain ⟨S, ev, rfl, hP⟩ := hE.form))
        all_goals (go_wp2; go_ret2)
        all_goals (refine ⟨anE_of (HN.out.trans HAN.out) hP, bnext (bdrew' B3) hb4⟩)
      · have HAP := hide (ansP_what3 (t := t) (v := u) (isV_no h1 h2 h3 h4))
        have hl3 := look_no Tryz.underlying90 zeroFnV HM3 a haa (mapV_none h1 h2 h3 h4).1 (mapV_none h1 h2 h3 h4).2
        clear h1 h2 h3 h4 HM3
        have HA : Hid (ansL s.data.toList = whatB) := HN.out.trans HAP.out
        obtain ⟨ea, hea⟩ := d3.nq
        go_wp2_with fail
        go_quiet (fail)
        go_wp2
        go_ret2
        exact ⟨.inr (.inr ⟨HA.out, _, ea, rfl⟩), bdrewN B3⟩
    | false =>
      go_wp2_with fail
      refine (votesQuestions_any w2).mono ?_
      rintro e w3 ⟨rfl, HM3, hb3⟩
      have B3 := bnext B2 hb3
      have d3 := d2.below hb3
      have f0 := (hb3.cell (p := ⟨g, 0, none⟩) hg2).trans e0
      have f1 := (hb3.cell (p := ⟨g, 1, none⟩) hg2).trans e1
      have f2 := (hb3.cell (p := ⟨g, 2, none⟩) hg2).trans e2
      clear B2 d2 hb3 HM e0 e1 e2
      rcases fourW a ⟨#[109, 97, 106, 111, 114, 105, 116, 121]⟩ ⟨#[109, 101, 100, 105, 97, 110, 115]⟩ ⟨#[115, 108, 97, 116, 101, 114]⟩ ⟨#[114, 97, 110, 107, 101, 100]⟩ with rfl | rfl | rfl | rfl | ⟨h1, h2, h3, h4⟩
      · have hl3 := look_yes Tryz.underlying90 zeroFnV HM3 ⟨#[109, 97, 106, 111, 114, 105, 116, 121]⟩ 81 (by decide) mapV_majr.1 mapV_majr.2
        clear HM3
        have HAB := hide (fun W hg => aboutMajr_any t u W htt hu2 hg)
        have HAN := hide (ansV_of (w := ⟨#[109, 97, 106, 111, 114, 105, 116, 121]⟩) (t := t) (u := u) rfl)
        go_wp2_with fail
        go_region_with (first | (go_at_call 54; refine (HAB.out _ (d3.gv.drew)).mono ?_; rintro e w4 ⟨hE, hb4⟩; obtain ⟨S, ev, rfl, hP⟩ := hE.form))
        all_goals (go_wp2; go_ret2)
        all_goals (refine ⟨anE_of (HN.out.trans HAN.out) hP, bnext (bdrew' B3) hb4⟩)
      · have hl3 := look_yes Tryz.underlying90 zeroFnV HM3 ⟨#[109, 101, 100, 105, 97, 110, 115]⟩ 83 (by decide) mapV_mdns.1 mapV_mdns.2
        clear HM3
        have HAB := hide (fun W hg => aboutMdns_any t u W htt hu2 hg)
        have HAN := hide (ansV_of (w := ⟨#[109, 101, 100, 105, 97, 110, 115]⟩) (t := t) (u := u) rfl)
        go_wp2_with fail
        go_region_with (first | (go_at_call 54; refine (HAB.out _ (d3.gv.drew)).mono ?_; rintro e w4 ⟨hE, hb4⟩; obtain ⟨S, ev, rfl, hP⟩ := hE.form))
        all_goals (go_wp2; go_ret2)
        all_goals (refine ⟨anE_of (HN.out.trans HAN.out) hP, bnext (bdrew' B3) hb4⟩)
      · have hl3 := look_yes Tryz.underlying90 zeroFnV HM3 ⟨#[115, 108, 97, 116, 101, 114]⟩ 86 (by decide) mapV_slat.1 mapV_slat.2
        clear HM3
        have HAB := hide (fun W hg => aboutSlat_any t u W htt hu2 hg)
        have HAN := hide (ansV_of (w := ⟨#[115, 108, 97, 116, 101, 114]⟩) (t := t) (u := u) rfl)
        go_wp2_with fail
        go_region_with (first | (go_at_call 54; refine (HAB.out _ (d3.gv.drew)).mono ?_; rintro e w4 ⟨hE, hb4⟩; obtain ⟨S, ev, rfl, hP⟩ := hE.form))
        all_goals (go_wp2; go_ret2)
        all_goals (refine ⟨anE_of (HN.out.trans HAN.out) hP, bnext (bdrew' B3) hb4⟩)
      · have hl3 := look_yes Tryz.underlying90 zeroFnV HM3 ⟨#[114, 97, 110, 107, 101, 100]⟩ 88 (by decide) mapV_rank.1 mapV_rank.2
        clear HM3
        have HAB := hide (fun W hg => aboutRank_any t u W htt hu2 hg)
        have HAN := hide (ansV_of (w := ⟨#[114, 97, 110, 107, 101, 100]⟩) (t := t) (u := u) rfl)
        go_wp2_with fail
        go_region_with (first | (go_at_call 54; refine (HAB.out _ (d3.gv.drew)).mono ?_; rintro e w4 ⟨hE, hb4⟩; obtain ⟨S, ev, rfl, hP⟩ := hE.form))
        all_goals (go_wp2; go_ret2)
        all_goals (refine ⟨anE_of (HN.out.trans HAN.out) hP, bnext (bdrew' B3) hb4⟩)
      · have HAP := hide (ansP_what3 (t := t) (v := u) (isV_no h1 h2 h3 h4))
        have hl3 := look_no Tryz.underlying90 zeroFnV HM3 a haa (mapV_none h1 h2 h3 h4).1 (mapV_none h1 h2 h3 h4).2
        clear h1 h2 h3 h4 HM3
        have HA : Hid (ansL s.data.toList = whatB) := HN.out.trans HAP.out
        obtain ⟨ea, hea⟩ := d3.nq
        go_wp2_with fail
        go_quiet (fail)
        go_wp2
        go_ret2
        exact ⟨.inr (.inr ⟨HA.out, _, ea, rfl⟩), bdrewN B3⟩
  · have c0 := hcell 0 (by simp)
    simp only [List.getElem_cons_zero] at c0
    obtain ⟨m, hm⟩ : ∃ m, (a :: t :: u :: x :: r).length = m := ⟨_, rfl⟩
    have h4 : 4 ≤ m := by rw [← hm]; simp
    rw [hm] at hpl ⊢
    clear hm hcell hpos h3p
    have hm1 : ((m : Int) - 1) = ((m - 1 : Nat) : Int) := by omega
    obtain ⟨k, hk⟩ : ∃ k, m - 1 = k := ⟨_, rfl⟩
    have hk3 : 3 ≤ k := by omega
    have n1 : ¬ (k : Int) = 1 := by omega
    have n2 : ¬ (k : Int) = 2 := by omega
    rw [hk] at hm1
    have haa := hsm a (by simp)
    clear hsm
    go_wp2_with fail
    go_quiet (fail)
    obtain ⟨W, hW⟩ : ∃ W, W = w1.drewN nq := ⟨_, rfl⟩
    rw [← hW]
    have BW : Below w.heap.size w W := by rw [hW]; exact bdrewN B1
    have dW : DV W := hd.below BW
    have dc0 : W.cell? ⟨g, 0, none⟩ = some (.string a) := by rw [hW]; exact c0
    have hgW : g < W.heap.size := by rw [hW]; exact hg2
    clear hW B1 hd c0 hg2
    go_wp2_with fail
    refine (spaceQuestions_any W).mono ?_
    rintro e w2 ⟨rfl, HM, hb2⟩
    have B2 := bnext BW hb2
    have d2 := dW.below hb2
    have e0 := (hb2.cell (p := ⟨g, 0, none⟩) hgW).trans dc0
    have hg2 : g < w2.heap.size := Nat.lt_of_lt_of_le hgW hb2.size
    clear BW dW hgW hb2 dc0
    obtain ⟨v2, q2, hl2⟩ := look_some Tryz.underlying85 zeroFnS HM a haa
    cases q2 with
    | true =>
      go_wp2_with fail
      refine (votesQuestions_any w2).mono ?_
      rintro e w3 ⟨rfl, HM3, hb3⟩
      have B3 := bnext B2 hb3
      have d3 := d2.below hb3
      have f0 := (hb3.cell (p := ⟨g, 0, none⟩) hg2).trans e0
      clear B2 d2 hb3 HM e0
      obtain ⟨v3, q3, hl3⟩ := look_some Tryz.underlying90 zeroFnV HM3 a haa
      clear HM3
      cases q3 with
      | true =>
        have HA : Hid (ansL s.data.toList = whatB) := HN.out.trans (ansP_more a t u x r)
        obtain ⟨ea, hea⟩ := d3.nq
        go_wp2_with fail
        go_quiet (fail)
        go_wp2
        go_ret2
        exact ⟨.inr (.inr ⟨HA.out, _, ea, rfl⟩), bdrewN B3⟩
      | false =>
        have HA : Hid (ansL s.data.toList = whatB) := HN.out.trans (ansP_more a t u x r)
        obtain ⟨ea, hea⟩ := d3.nq
        go_wp2_with fail
        go_quiet (fail)
        go_wp2
        go_ret2
        exact ⟨.inr (.inr ⟨HA.out, _, ea, rfl⟩), bdrewN B3⟩
    | false =>
      go_wp2_with fail
      refine (votesQuestions_any w2).mono ?_
      rintro e w3 ⟨rfl, HM3, hb3⟩
      have B3 := bnext B2 hb3
      have d3 := d2.below hb3
      have f0 := (hb3.cell (p := ⟨g, 0, none⟩) hg2).trans e0
      clear B2 d2 hb3 HM e0
      obtain ⟨v3, q3, hl3⟩ := look_some Tryz.underlying90 zeroFnV HM3 a haa
      clear HM3
      cases q3 with
      | true =>
        have HA : Hid (ansL s.data.toList = whatB) := HN.out.trans (ansP_more a t u x r)
        obtain ⟨ea, hea⟩ := d3.nq
        go_wp2_with fail
        go_quiet (fail)
        go_wp2
        go_ret2
        exact ⟨.inr (.inr ⟨HA.out, _, ea, rfl⟩), bdrewN B3⟩
      | false =>
        have HA : Hid (ansL s.data.toList = whatB) := HN.out.trans (ansP_more a t u x r)
        obtain ⟨ea, hea⟩ := d3.nq
        go_wp2_with fail
        go_quiet (fail)
        go_wp2
        go_ret2
        exact ⟨.inr (.inr ⟨HA.out, _, ea, rfl⟩), bdrewN B3⟩
end Go.Proofs.YtgebplpbnaeckaaGreatDoor

/- GvD: What a world that fits the rows of the desk holds: the tables, the sentinels, the handle of the type error, MaxLen. -/
namespace Go.Proofs.YtgebplpbnaeckaaGreatDoor
open Go.RowKit Go.Joins

theorem starErr : "*" ++ "errors.errorString" = "*errors.errorString" := by decide
theorem rowErr (u : TypeId) (h : Tryz.prog.typeName? 3 u = some "*errors.errorString") : u = 221 :=
  typeName_ptr_named (nm := "errors.errorString") (by rw [starErr]; kernel_rfl) (by kernel_rfl) (by decide) u (by rw [starErr]; exact h)
theorem oneErr : ((List.range Tryz.prog.types.size).filter fun t => Tryz.prog.rowNamed t [101, 114, 114, 111, 114]) = [49] := by kernel_rfl
theorem rtErr : (Tryz.prog.cutTypes.find? (·.1 == "internal/reflectlite.rtype")).map (·.2) = some 119 := by kernel_rfl
theorem gErrT : Tryz.prog.globalNamed "errors.errorType" = some 1 := by kernel_rfl
theorem gNoQ : Tryz.prog.globalNamed "loop.example/jointjudgments/impl.errNoQuestion" = some 0 := by kernel_rfl
/-- what the rows list, but for the handle -/
abbrev deskLaid : List (String × DataW Unit) := [("math/bits.deBruijn32tab", Rows.laid_math_bits_deBruijn32tab), ("math/bits.deBruijn64tab", Rows.laid_math_bits_deBruijn64tab), ("internal/strconv.uint64pow10", Rows.laid_internal_strconv_uint64pow10), ("unicode/utf8.acceptRanges", Rows.laid_unicode_utf8_acceptRanges), ("strconv.ErrRange", Rows.laid_strconv_ErrRange), ("strconv.ErrSyntax", Rows.laid_strconv_ErrSyntax), ("loop.example/jointjudgments/impl.errNoQuestion", Rows.laid_loop_example_jointjudgments_impl_errNoQuestion), ("unicode/utf8.first", Rows.laid_unicode_utf8_first)]
theorem laid_split (W : World) : laidMetH Tryz.prog Rows.fnExactRunDeskRow.laid W = (laidMet Tryz.prog deskLaid W ∧ handlesMet Tryz.prog [("errors.errorType", Rows.laid_errors_errorType)] W) := by kernel_rfl
theorem dv_of {W : World} (hL : laidMetH Tryz.prog Rows.fnExactRunDeskRow.laid W) (hsh : W.ShapedOpen Tryz.prog) : DV W ∧ ∃ a, W.var? Tryz.prog "loop.example/jointjudgments/impl.errNoQuestion" = some #[.iface 221 (.pointer (some a))] := by
  rw [laid_split] at hL
  obtain ⟨hL, hH⟩ := hL
  have h3 := hL.tail.tail
  have h5 := h3.tail.tail
  have h6 := h5.tail
  have h7 := h6.tail
  obtain ⟨a1, s1, v1, _⟩ := laid_sentinel (g := 9) h5 (by kernel_rfl) (by kernel_rfl) Tryz.underlying49 rowErr Tryz.underlying221 Tryz.underlying223 rfl rfl Tryz.underlying9 (by kernel_rfl) (by kernel_rfl)
  obtain ⟨a2, s2, v2, _⟩ := laid_sentinel (g := 8) h6 (by kernel_rfl) (by kernel_rfl) Tryz.underlying49 rowErr Tryz.underlying221 Tryz.underlying223 rfl rfl Tryz.underlying9 (by kernel_rfl) (by kernel_rfl)
  obtain ⟨a3, s3, v3, _⟩ := laid_sentinel (g := 0) h7 (by kernel_rfl) (by kernel_rfl) Tryz.underlying49 rowErr Tryz.underlying221 Tryz.underlying223 rfl rfl Tryz.underlying9 (by kernel_rfl) (by kernel_rfl)
  have c1 := World.var?_cell (show Tryz.prog.globalNamed "strconv.ErrRange" = some 9 by kernel_rfl) v1 0
  have c2 := World.var?_cell (show Tryz.prog.globalNamed "strconv.ErrSyntax" = some 8 by kernel_rfl) v2 0
  have c3 := World.var?_cell gNoQ v3 0
  have hm : ∃ m, W.cell? ⟨2, 0, none⟩ = some (.int .i64 m) := Go.Proofs.cell_of_shapedOpen_int (zero := #[.int .i64 0]) (t := 3) hsh (of_decide_eq_true (by kernel_rfl)) (by kernel_rfl) rfl (by kernel_rfl) (by kernel_rfl) Tryz.underlying3
  have het : W.cell? ⟨1, 0, none⟩ = some (.iface 119 (.agg #[.pointer (some ⟨10, 49, none⟩)])) := by
    have hx := hH _ (List.mem_singleton.2 rfl)
    obtain ⟨name, u, ty, e1, e2, e3, e4, e5⟩ : ∃ name u ty, (Rows.laid_errors_errorType (H := Unit)).handleName? = some name ∧ (Tryz.prog.cutTypes.find? (·.1 == "internal/reflectlite.rtype")).map (·.2) = some u ∧ ty < Tryz.prog.types.size ∧ Tryz.prog.rowNamed ty name = true ∧ W.var? Tryz.prog "errors.errorType" = some #[.iface u (.agg #[typeHandle Tryz.prog ty])] := hx
    have en : name = [101, 114, 114, 111, 114] := (Option.some.inj e1).symm
    subst en
    obtain rfl := Option.some.inj (rtErr.symm.trans e2)
    have hm : ty ∈ (List.range Tryz.prog.types.size).filter fun t => Tryz.prog.rowNamed t [101, 114, 114, 111, 114] := List.mem_filter.2 ⟨List.mem_range.2 e3, e4⟩
    rw [oneErr] at hm
    obtain rfl := List.mem_singleton.1 hm
    have hh : typeHandle Tryz.prog 49 = .pointer (some ⟨10, 49, none⟩) := by kernel_rfl
    rw [hh] at e5
    simpa using World.var?_cell gErrT e5 0
  refine ⟨⟨⟨hm, ⟨_, by simpa using c2, .inr ⟨_, _, rfl⟩⟩, ⟨_, by simpa using c1, .inr ⟨_, _, rfl⟩⟩, ?_⟩, het, a3, by simpa using c3⟩, a3, v3⟩
  exact Lib.tabIs_of_head (t := 191) (e := 171) (n := 20) gPow (by kernel_rfl) Tryz.underlying191 Tryz.underlying171 (by kernel_rfl) (by kernel_rfl) h3
/-- both what is laid and the world's shape reach the walk (my own join of two roads of the library) -/
theorem handed_both {H : Type} {enc : TypeId × Value → H} {a : Assume} {C : Checked} {os : Os} {f : FuncId} {fn : Func} {s : ChangeSpec} {conds : List PathCond} {apart fresh handsOn again : Bool} {X : World → Array Value → Prop}
    (hX : ∀ (w w' : World) (args : Array Value), w.heap = w'.heap → X w args → X w' args)
    (own : ownKnob C.prog.godebug = none) (started : os.Started) (noInit : C.prog.inits.idxOf? f = none) (hfn : C.prog.funcs[f]? = some fn)
    (wit : ∃ (w : World) (tape : Tape) (i : Input), w.os = os ∧ (w.forCall tape i).Shaped C.prog ∧ i.vars = [] ∧ Input.okWide C.prog (w.forCall tape i) .any w.heap.size f i ∧
      ((s.pre enc C.prog fn conds apart (w.forCall tape i).memory i.args ∧ X (w.forCall tape i).memory i.args) ∧ sizedMet enc C.prog fn (OpenSpec.ofChange s) apart (w.forCall tape i).memory i.args) ∧ a.holds C.prog (lone (Frame.enter C.prog f i.args .normal) [] (w.forCall tape i)))
    (walk : ∀ (W : World) (base : Nat) (args : Array Value) (ds gs : List (DataW H)) (before : List MemPlace),
      (∀ (j : Nat) t v, fn.params[j]? = some t → args[j]? = some v → Value.okWide C.prog W .any base t v) →
      DataW.Whole enc C.prog fn.params.toList s.vars apart W args.toList ds gs before → X W args → W.ShapedOpen C.prog →
      Calls C.prog f args W fun e W' => ∃ v, e = .returned v ∧ s.post enc C.prog fn apart fresh handsOn again W args v W') :
    ReturnsInHanded a C os f .any (fun w args => (s.pre enc C.prog fn conds apart w args ∧ X w args) ∧ sizedMet enc C.prog fn (OpenSpec.ofChange s) apart w args) (s.post enc C.prog fn apart fresh handsOn again) := by
  refine returnsInHanded_of_calls own started noInit wit ?_
  intro w tape i _ hsh _ hok hpre _
  obtain ⟨_, _, _, g, hg, _, _, _, _, hval⟩ := hok
  obtain rfl : g = fn := Option.some.inj (hg.symm.trans hfn)
  obtain ⟨⟨⟨ds, gs, before, hw, _⟩, hx⟩, _⟩ := hpre
  refine (walk (w.forCall tape i) w.heap.size i.args ds gs before hval (DataW.Whole.of_heap (w' := w.forCall tape i) (by rfl) hw) (hX _ _ _ (by rfl) hx) hsh).mono ?_
  rintro e W' ⟨v, rfl, hp⟩
  exact ChangeSpec.post_blind hp
end Go.Proofs.YtgebplpbnaeckaaGreatDoor

/- Spare: An append where there is room, as a step; an owned list's cells. -/
namespace Go.Proofs.YtgebplpbnaeckaaGreatDoor
open Go.RowKit Go.Joins

/-- append where there is room, as one step of a region that draws its order -/
theorem step_append_spare {P : Program} {ops : Array Oper} {o : Oper} {a : Act} {w : World} {K : Act → World → Prop} {Q : Exit → Act → World → Prop} {E : Prop}
    (hg : o.guard = none) (s x : Operand) (t : TypeId) (hop : o.op = Op.call { callee := Callee.builtin Builtin.append, args := #[s, x], argTypes := #[t, t] })
    (base : Nat) (e : TypeId) (i : TypeInfo) (size : Nat) (ht : P.underlying t = some (.slice e)) (hi : P.info? e = some i) (hsize : i.size = size)
    (g n cap : Nat) (xs : List Value) (hs : a.eval s = .slice (some ⟨g, 0, none⟩) n cap) (hown : w.ownsRow base e size (.slice (some ⟨g, 0, none⟩) n cap) n xs)
    (ad : Addr) (m c : Nat) (news : List Value) (hx : a.eval x = .slice (some ad) m c) (hl : news.length = m * size) (hnews : ∀ j u, news[j]? = some u → w.cell? (ad.add j) = some u) (h1 : ∀ u ∈ news, u.oneCell' = true)
    (hroom : n + m ≤ cap)
    (hK : ∀ w', w'.ownsRow base e size (.slice (some ⟨g, 0, none⟩) (n + m) cap) (n + m) (xs ++ news) → w.grownBy w' (some g) → K (a.put o.dst (.slice (some ⟨g, 0, none⟩) (n + m) cap)) w') :
    if Region.wanted o (yielded ops a.tmps) = true then Oper.wp P o a w K Q else E := by
  have hw : Region.wanted o (yielded ops a.tmps) = true := by simp [Region.wanted, hg]
  rw [if_pos hw]
  obtain ⟨w', hrun, r1, r2⟩ := run_append_own_spare (P := P) w base t o.type e i size ht hi hsize g n cap xs hown ad m c news hl hnews h1 hroom
  unfold Oper.wp
  simp [execOp, hop, resolve, invoke, builtin, hs, hx, hrun, Result.andThen]
  exact hK w' r1 r2
/-- append, as one step of a region that draws its order -/
theorem step_append_own {P : Program} {ops : Array Oper} {o : Oper} {a : Act} {w : World} {K : Act → World → Prop} {Q : Exit → Act → World → Prop} {E : Prop}
    (hg : o.guard = none) (s x : Operand) (t : TypeId) (ho : o.op = .call { callee := .builtin .append, args := #[s, x], argTypes := #[t, t] })
    (base : Nat) (e : TypeId) (i : TypeInfo) (z : Value) (size bytes : Nat) (ht : P.underlying t = some (.slice e)) (hi : P.info? e = some i) (hz : i.zero = some z)
    (hsize : i.size = size) (hby : i.bytes = bytes) (hzs : z.cells.size = size) (hsz : 0 < size)
    (v : Value) (n : Nat) (xs : List Value) (hs : a.eval s = v) (hown : w.ownsRow base e size v n xs)
    (ad : Addr) (m c : Nat) (news : List Value) (hx : a.eval x = .slice (some ad) m c) (hl : news.length = m * size) (hnews : ∀ j u, news[j]? = some u → w.cell? (ad.add j) = some u) (h1 : ∀ u ∈ news, u.oneCell' = true)
    (h63 : n + m ≤ maxLen) (hbytes : (n + m) * bytes ≤ 140737488355328) (hbase : base ≤ w.heap.size)
    (hK : ∀ v' w', w'.ownsRow base e size v' (n + m) (xs ++ news) → w.grownBy w' v.ownBlock → (v' = .slice none 0 0 ↔ v = .slice none 0 0 ∧ m = 0) → K (a.put o.dst v') w') :
    if Region.wanted o (yielded ops a.tmps) = true then Oper.wp P o a w K Q else E := by
  have hw : Region.wanted o (yielded ops a.tmps) = true := by simp [Region.wanted, hg]
  rw [if_pos hw]
  exact wp_append_own w s x t ho base e i z size bytes ht hi hz hsize hby hzs hsz v n xs hs hown ad m c news hx hl hnews h1 h63 hbytes hbase hK
theorem own_first {w : World} {base g n cap : Nat} {xs news : List Value} {u : Value} (h : w.ownsRow base 3 1 (.slice (some ⟨g, 0, none⟩) n cap) n (xs ++ news)) (hx : xs[0]? = some u) : w.cell? ⟨g, 0, none⟩ = some u := by
  have hl : 0 < xs.length := (List.getElem?_eq_some_iff.1 hx).1
  have hk := h.1
  rw [List.length_append] at hk
  have := h.cellAt 0 (by omega)
  rw [this, List.getElem?_append_left hl, hx]
theorem own_cells {w : World} {base g n cap : Nat} {xs : List Value} (h : w.ownsRow base 3 1 (.slice (some ⟨g, 0, none⟩) n cap) n xs) : ∀ b, (some ⟨g, 0, none⟩ : Option Addr) = some b → ∀ j u, xs[j]? = some u → w.cell? (b.add j) = some u := by
  intro b e j u hu
  cases e
  have hl := (List.getElem?_eq_some_iff.1 hu).1
  have hk := h.1
  have e1 : (⟨g, 0, none⟩ : Addr).add j = ⟨g, j, none⟩ := by
    unfold Addr.add
    by_cases h : j = 0 <;> simp [h]
  rw [e1, h.cellAt j (by omega)]
  exact hu
end Go.Proofs.YtgebplpbnaeckaaGreatDoor

/- SlaR: SlaterRule of the model. -/
namespace Go.Proofs.YtgebplpbnaeckaaGreatDoor
open Go.RowKit Go.Joins

set_option maxHeartbeats 2000000 in
theorem specSlaterRule_any (n : Int) (a l : Option Addr) (cap capl : Nat) (zs vs : List Int) (w : World) (hi : Ints w a zs) (hj : Ints w l vs) (hn : zs.length ≤ 1048576) (hm : vs.length ≤ 1048576) :
    Calls Tryz.prog 43 #[.agg #[.int .i64 n, .slice a zs.length cap], .slice l vs.length capl] w (Gives (bestM n zs vs) w) := by
  obtain ⟨i0, hi0, hz0, hz1, hz2⟩ := info_parts info_int
  have S0 := SV.new w n a zs cap l vs 37 hi hj
  clear hi hj
  by_cases hv : vsB n zs = false
  · have HN := hide (bestM_no (vvB_no (vs := vs) hv))
    go_enter Tryz.func43, Tryz.ntmps43
    go_wp2_with fail
    refine (validSpace_any _ _ _ _ _ S0.2.1 hn).mono ?_
    rintro e w1 ⟨rfl, hb⟩
    go_wp2
    go_ret
    exact gives_nil HN.out (S0.below hb).2.2.2
  · have hv : vsB n zs = true := by simpa using hv
    have hV := hide (valid_of hv)
    have HVV := hide (vvB_yes (vs := vs) hv)
    by_cases hvo : votesB zs vs = false
    · have HN := hide (bestM_no (HVV.out.trans hvo))
      go_enter Tryz.func43, Tryz.ntmps43
      go_wp2_with fail
      refine (validSpace_any _ _ _ _ _ S0.2.1 hn).mono ?_
      rintro e w1 ⟨rfl, hb⟩
      have S1 := S0.below hb
      obtain ⟨⟨_, c0, c1⟩, _⟩ := S1.pair
      go_wp2_with fail
      refine (validVotes_any _ _ _ _ _ _ _ _ S1.2.1 S1.2.2.1 hn hm).mono ?_
      rintro e w2 ⟨rfl, hb2⟩
      go_wp2
      go_ret
      exact gives_nil HN.out (S1.below hb2).2.2.2
    · have hvo : votesB zs vs = true := by simpa using hvo
      have HN := hide (bestM_yes (HVV.out.trans hvo))
      have HVO := hide (votes_of hvo)
      have HR := hide (votes_range hV.out HVO.out)
      have HZ := hide (valid_range hV.out)
      obtain ⟨m, rfl⟩ := Int.eq_ofNat_of_zero_le (show 0 ≤ n from by have := hV.out.1; omega)
      have h4 : m ≤ 4 := by have := hV.out.1; omega
      have H16 := hide (want_16 vs m h4)
      have hpos := hV.out.2.1
      have h5 : vs.length ≤ 5 := by have := HVO.out.2; omega
      go_enter Tryz.func43, Tryz.ntmps43
      go_wp2_with fail
      refine (validSpace_any _ _ _ _ _ S0.2.1 hn).mono ?_
      rintro e w1 ⟨rfl, hb⟩
      have S1 := S0.below hb
      obtain ⟨⟨_, c0, c1⟩, _⟩ := S1.pair
      go_wp2_with fail
      refine (validVotes_any _ _ _ _ _ _ _ _ S1.2.1 S1.2.2.1 hn hm).mono ?_
      rintro e w2 ⟨rfl, hb2⟩
      have SR := S1.below hb2
      clear S0 hb S1 hb2 c0 c1
      obtain ⟨⟨_, c0, c1⟩, _⟩ := SR.pair
      go_wp2_with fail
      refine (wanted_any _ _ _ _ _ _ _ _ SR.2.1 SR.2.2.1 h5 h4 HR.out).mono ?_
      rintro e w3 ⟨rfl, hb3⟩
      have SP := (SR.below hb3).below (bel1 w3 (.cells #[.int .i64 (wantC vs m : Nat), .int .i64 (wantB vs m : Nat)] 79))
      have PB := PBox.new w3 (wantC vs m : Nat) (wantB vs m : Nat) 79
      obtain ⟨G, hG0⟩ : ∃ G : Nat, w3.heap.size = G := ⟨_, rfl⟩
      obtain ⟨wo, hwo⟩ : ∃ wo : World, w3.alloc (.cells #[.int .i64 (wantC vs m : Nat), .int .i64 (wantB vs m : Nat)] 79) = wo := ⟨_, rfl⟩
      rw [hwo] at SP PB
      rw [hG0] at PB
      clear SR c0 c1 hb3
      have SR := SP
      clear SP
      have ho0 : Owns (wo.alloc (.cells #[] 3)) wo.heap.size (.slice (some ⟨wo.heap.size, 0, none⟩) 0 0) [] := World.ownsRow_lit wo #[] 0 (Nat.le_refl _) (by simp) rfl
      have BA := bel1 wo (.cells #[] 3)
      go_wp2
      clear hwo hG0
      have HFM := hide (wantC_lt vs m)
      go_loopw [6, 7] (fun v i wr => ∃ k : Nat, k ≤ zs.length ∧ i = .int .i64 k ∧ Owns wr wo.heap.size v (farL (slaF m (wantC vs m) (wantB vs m)) (zs.take k)) ∧ Below wo.heap.size wo wr) (fun _ i _ => zs.length - (intOf i).toNat)
      case atStart => exact ⟨0, Nat.zero_le _, rfl, ho0, BA⟩
      case round =>
        clear ho0 BA
        obtain ⟨k, hk, rfl, hown, BR⟩ := hrel
        have SQ := SR.below BR
        have PQ := PB.below BR
        obtain ⟨⟨_, c0, c1⟩, iz, il, _⟩ := SQ.pair
        have p0 := PQ.2.1
        have p1 := PQ.2.2
        by_cases hlt : k < zs.length
        · obtain ⟨b0, off0, ea, hb0, hc0⟩ := SR.2.1 (by omega)
          obtain ⟨b, off, rfl, hbl, hc⟩ := iz (by omega)
          have ZK : Hid (∀ w' : World, Below wo.heap.size wo w' → Hid (w'.cell? ⟨b, off + k, none⟩ = some (.int .i64 zs[k]))) := fun w' hb' => by
            simp only [Option.some.injEq, Addr.mk.injEq, and_true] at ea
            obtain ⟨rfl, rfl⟩ := ea
            have h := (hb'.cell (p := ⟨b, off + k, none⟩) hb0).trans (hc0 k hlt)
            rw [getD_lt hlt] at h
            exact h
          have hck := hc k hlt
          rw [getD_lt hlt] at hck
          have hdt := hide (farL_take (slaF m (wantC vs m) (wantB vs m)) zs k hlt)
          have hle : (farL (slaF m (wantC vs m) (wantB vs m)) (zs.take k)).length ≤ k := by rw [farL_length]; exact List.length_take_le _ _
          have rz := hide (HZ.out _ (mem_of_at hlt))
          have HOWN := hide hown
          have hls := SQ.1.1
          have hG := PQ.1
          have hg16 := givN_lt (b := wantB vs m) zs[k] H16.out.1
          have hwt : wt (givN (wantC vs m) (wantB vs m) zs[k]) ≤ m := by
            have h1 := giv_le (b := wantB vs m) zs[k] HFM.out h4
            exact h1
          have hw : IntKind.i64.wrap ((m : Int) - (wt (givN (wantC vs m) (wantB vs m) zs[k]) : Int)) = ((slaF m (wantC vs m) (wantB vs m) zs[k] : Nat) : Int) := by
            rw [IntWalk.i64_in _ (by omega)]
            unfold slaF
            omega
          clear hc iz hown hc0 ea hb0 hwt hg16
          go_wp2_with fail
          refine wp_region_held_drew (S := (fun w' => w'.cell? ⟨w.heap.size, 0, none⟩ = some (.int .i64 m) ∧ w'.cell? ⟨w.heap.size, 1, none⟩ = some (.slice (some ⟨b, off, none⟩) zs.length cap) ∧ w'.cell? ⟨b, off + k, none⟩ = some (.int .i64 zs[k]) ∧ w'.cell? ⟨G, 0, none⟩ = some (.int .i64 (wantC vs m : Nat)) ∧ w'.cell? ⟨G, 1, none⟩ = some (.int .i64 (wantB vs m : Nat)))) (by kernel_rfl) ?_ (fun hHeld => ?_)
          · exact ⟨c0, c1, hck, p0, p1⟩
          refine wpAnyH_take (i := 0) (v := ?vvt23) rfl (by kernel_rfl) (by kernel_rfl) (by kernel_rfl) (fun _ _ _ h => h) (Or.inl ⟨by rfl, ?hyt23⟩) (by assumption) ?restt23
          case hyt23 => (intro w hSw; (try dsimp only at hSw); go_simp; (try with_reducible rfl))
          case restt23 =>
            (try simp only [Act.put, List.setIfInBounds_toArray, List.set_cons_zero, List.set_cons_succ, List.getElem_toArray, List.getElem_cons_zero])
            refine wpAnyH_take (i := 1) (v := ?vvt24) rfl (by kernel_rfl) (by kernel_rfl) (by kernel_rfl) (fun _ _ _ h => h) (Or.inl ⟨by rfl, ?hyt24⟩) (by assumption) ?restt24
            case hyt24 => (intro w hSw; (try dsimp only at hSw); go_simp; (try with_reducible rfl))
            case restt24 =>
              (try simp only [Act.put, List.setIfInBounds_toArray, List.set_cons_zero, List.set_cons_succ, List.getElem_toArray, List.getElem_cons_zero, List.getElem_cons_succ])
              refine wpAnyH_take (i := 2) (v := ?vvt25) rfl (by kernel_rfl) (by kernel_rfl) (by kernel_rfl) (fun _ _ _ h => h) (Or.inl ⟨by rfl, ?hyt25⟩) (by assumption) ?restt25
              case hyt25 => (intro w hSw; (try dsimp only at hSw); go_simp; (try with_reducible rfl))
              case restt25 =>
                (try simp only [Act.put, List.setIfInBounds_toArray, List.set_cons_zero, List.set_cons_succ, List.getElem_toArray, List.getElem_cons_zero, List.getElem_cons_succ])
                refine wpAnyH_take (i := 3) (v := ?vvt26) rfl (by kernel_rfl) (by kernel_rfl) (by kernel_rfl) (fun _ _ _ h => h) (Or.inl ⟨by rfl, ?hyt26⟩) (by assumption) ?restt26
                case hyt26 => (intro w hSw; (try dsimp only at hSw); go_simp; (try with_reducible rfl))
                case restt26 =>
                  (try simp only [Act.put, List.setIfInBounds_toArray, List.set_cons_zero, List.set_cons_succ, List.getElem_toArray, List.getElem_cons_zero, List.getElem_cons_succ])
                  refine wpAnyH_take (i := 4) (v := ?vvt27) rfl (by kernel_rfl) (by kernel_rfl) (by kernel_rfl) (fun _ _ _ h => h) (Or.inl ⟨by rfl, ?hyt27⟩) (by assumption) ?restt27
                  case hyt27 => (intro w hSw; (try dsimp only at hSw); go_simp; (try with_reducible rfl))
                  case restt27 =>
                    (try simp only [Act.put, List.setIfInBounds_toArray, List.set_cons_zero, List.set_cons_succ, List.getElem_toArray, List.getElem_cons_zero, List.getElem_cons_succ])
                    refine wpAnyH_take (i := 5) (v := ?vvt28) rfl (by kernel_rfl) (by kernel_rfl) (by kernel_rfl) (fun _ _ _ h => h) (Or.inl ⟨by rfl, ?hyt28⟩) (by assumption) ?restt28
                    case hyt28 => (intro w hSw; (try dsimp only at hSw); go_simp; (try with_reducible rfl))
                    case restt28 =>
                      (try simp only [Act.put, List.setIfInBounds_toArray, List.set_cons_zero, List.set_cons_succ, List.getElem_toArray, List.getElem_cons_zero, List.getElem_cons_succ])
                      refine wpAnyH_take (i := 6) (v := ?vvt29) rfl (by kernel_rfl) (by kernel_rfl) (by kernel_rfl) (fun _ _ _ h => h) (Or.inl ⟨by rfl, ?hyt29⟩) (by assumption) ?restt29
                      case hyt29 => (intro w hSw; (try dsimp only at hSw); go_simp; (try with_reducible rfl))
                      case restt29 =>
                        (try simp only [Act.put, List.setIfInBounds_toArray, List.set_cons_zero, List.set_cons_succ, List.getElem_toArray, List.getElem_cons_zero, List.getElem_cons_succ])
                        refine wpAnyH_take (i := 7) (v := ?vvt30) rfl (by kernel_rfl) (by kernel_rfl) (by kernel_rfl) (fun _ _ _ h => h) (Or.inl ⟨by rfl, ?hyt30⟩) (by assumption) ?restt30
                        case hyt30 => (intro w hSw; (try dsimp only at hSw); go_simp; (try with_reducible rfl))
                        case restt30 =>
                          (try simp only [Act.put, List.setIfInBounds_toArray, List.set_cons_zero, List.set_cons_succ, List.getElem_toArray, List.getElem_cons_zero, List.getElem_cons_succ])
                          refine wpAnyH_take (i := 8) (v := ?vvt31) rfl (by kernel_rfl) (by kernel_rfl) (by kernel_rfl) (fun _ _ _ h => h) (Or.inl ⟨by rfl, ?hyt31⟩) (by assumption) ?restt31
                          case hyt31 => (intro w hSw; (try dsimp only at hSw); go_simp; (try with_reducible rfl))
                          case restt31 =>
                            (try simp only [Act.put, List.setIfInBounds_toArray, List.set_cons_zero, List.set_cons_succ, List.getElem_toArray, List.getElem_cons_zero, List.getElem_cons_succ])
                            refine wpAnyH_ready (rs := [9]) (by kernel_rfl) (by simp) ?_
                            refine (AllReadyH.cons rfl (fun K hK => ?_) AllReadyH.nil)
                            go_simp
                            (go_at_call 68; refine (given_any _ _ _ _ H16.out.1 H16.out.2 rz.out).mono ?_)
                            rintro e w4 ⟨rfl, b4⟩
                            have b4' := bdrew b4
                            have e0 := (b4'.cell (p := ⟨w.heap.size, 0, none⟩) hls).trans c0
                            have e1 := (b4'.cell (p := ⟨w.heap.size, 1, none⟩) hls).trans c1
                            have e2 := (b4'.cell (p := ⟨b, off + k, none⟩) hbl).trans hck
                            have e3 := (b4'.cell (p := ⟨G, 0, none⟩) hG).trans p0
                            have e4 := (b4'.cell (p := ⟨G, 1, none⟩) hG).trans p1
                            have hown4 := hide (Owns.below HOWN.out b4')
                            have BR4 := hide (bnext BR b4')
                            go_wp2_with fail
                            refine hK.out _ _ ?_ (fun hHeld => ?_)
                            · exact ⟨e0, e1, e2, e3, e4⟩
                            clear hK K
                            (try simp only [Act.put, List.setIfInBounds_toArray, List.set_cons_zero, List.set_cons_succ, List.getElem_toArray, List.getElem_cons_zero, List.getElem_cons_succ])
                            refine wpAnyH_ready (rs := [10]) (by kernel_rfl) (by simp) ?_
                            refine (AllReadyH.cons rfl (fun K hK => ?_) AllReadyH.nil)
                            go_simp
                            (go_at_call 47; refine (weight_any _ _ (givN_lt zs[k] H16.out.1)).mono ?_)
                            rintro e w' ⟨rfl, rfl⟩
                            go_wp2_with fail
                            refine hK.out _ _ ?_ (fun hHeld => ?_)
                            · exact ⟨e0, e1, e2, e3, e4⟩
                            clear hK K
                            (try simp only [Act.put, List.setIfInBounds_toArray, List.set_cons_zero, List.set_cons_succ, List.getElem_toArray, List.getElem_cons_zero, List.getElem_cons_succ])
                            refine wpAnyH_take (i := 11) (v := ?vvt32) rfl (by kernel_rfl) (by kernel_rfl) (by kernel_rfl) (fun _ _ _ h => h) (Or.inl ⟨by rfl, ?hyt32⟩) (by assumption) ?restt32
                            case hyt32 => (intro w hSw; (try dsimp only at hSw); go_simp; (try with_reducible rfl))
                            case restt32 =>
                              (try simp only [Act.put, List.setIfInBounds_toArray, List.set_cons_zero, List.set_cons_succ, List.getElem_toArray, List.getElem_cons_zero, List.getElem_cons_succ])
                              refine wpAnyH_ready (rs := [12]) (by kernel_rfl) (by simp) ?_
                              refine (AllReadyH.cons rfl (fun K hK => ?_) AllReadyH.nil)
                              go_simp
                              have hls4 := Nat.lt_of_lt_of_le hls b4'.size
                              have hbl4 := Nat.lt_of_lt_of_le hbl b4'.size
                              have hG4 := Nat.lt_of_lt_of_le hG b4'.size
                              refine hK.out _ _ ?_ (fun hHeld => ?_)
                              · exact ⟨((bel1 w4 (.cells #[.int .i64 (slaF m (wantC vs m) (wantB vs m) zs[k] : Nat)] 3)).cell (p := ⟨w.heap.size, 0, none⟩) hls4).trans e0, ((bel1 w4 (.cells #[.int .i64 (slaF m (wantC vs m) (wantB vs m) zs[k] : Nat)] 3)).cell (p := ⟨w.heap.size, 1, none⟩) hls4).trans e1, ((bel1 w4 (.cells #[.int .i64 (slaF m (wantC vs m) (wantB vs m) zs[k] : Nat)] 3)).cell (p := ⟨b, off + k, none⟩) hbl4).trans e2, ((bel1 w4 (.cells #[.int .i64 (slaF m (wantC vs m) (wantB vs m) zs[k] : Nat)] 3)).cell (p := ⟨G, 0, none⟩) hG4).trans e3, ((bel1 w4 (.cells #[.int .i64 (slaF m (wantC vs m) (wantB vs m) zs[k] : Nat)] 3)).cell (p := ⟨G, 1, none⟩) hG4).trans e4⟩
                              clear hK K
                              (try simp only [Act.put, List.setIfInBounds_toArray, List.set_cons_zero, List.set_cons_succ, List.getElem_toArray, List.getElem_cons_zero, List.getElem_cons_succ])
                              refine wpAnyH_ready (rs := [13]) (by kernel_rfl) (by simp) ?_
                              refine (AllReadyH.cons rfl (fun K hK => ?_) AllReadyH.nil)
                              (refine step_append_own (by rfl) _ _ _ (by rfl) wo.heap.size 3 i0 (.int .i64 0) 1 8 Tryz.underlying35 hi0 hz0 hz1 hz2 rfl (by decide) _ _ _ (by rfl) (hown4.out.alloc _) ⟨w4.heap.size, 0, none⟩ 1 1 [.int .i64 (slaF m (wantC vs m) (wantB vs m) zs[k] : Nat)] (by rfl) (by rfl) (cell_one_new _ _ _) (by simp [Value.oneCell']) (by unfold maxLen; omega) (by omega) (by have := BR4.out.size; simp; omega) ?_)
                              intro v' w5 hown5 hgrow _
                              have B5 : Below wo.heap.size wo w5 := (BR4.out.alloc BR4.out.size _).grown hgrow (by have := BR4.out.size; simp; omega) (fun j hj => own_ge hown4.out j hj)
                              have hpush := hide (Owns.push hown5)
                              have SE := SR.below B5
                              have PE := PB.below B5
                              have IE := (ZK.out _ B5).out
                              refine hK.out _ _ ?_ (fun hHeld => ?_)
                              · exact ⟨SE.1.2.1, SE.1.2.2, IE, PE.2.1, PE.2.2⟩
                              clear hK K
                              (try simp only [Act.put, List.setIfInBounds_toArray, List.set_cons_zero, List.set_cons_succ, List.getElem_toArray, List.getElem_cons_zero, List.getElem_cons_succ])
                              refine wpAnyH_take (i := 14) (v := ?vvt33) rfl (by kernel_rfl) (by kernel_rfl) (by kernel_rfl) (fun _ _ _ h => h) (Or.inl ⟨by rfl, ?hyt33⟩) (by assumption) ?restt33
                              case hyt33 => (intro w hSw; (try dsimp only at hSw); go_simp; (try with_reducible rfl))
                              case restt33 =>
                                (try simp only [Act.put, List.setIfInBounds_toArray, List.set_cons_zero, List.set_cons_succ, List.getElem_toArray, List.getElem_cons_zero, List.getElem_cons_succ])
                                refine wpAnyH_done (by kernel_rfl) ?_ _
                                go_wp2_with fail
                                go_roundw
                                case rel => exact ⟨k + 1, by omega, by go_num, by rw [hdt.out]; exact hpush.out, B5⟩
                                case measure => simp only [intOf]; omega
        · obtain rfl : k = zs.length := by omega
          rw [List.take_length] at hown
          obtain ⟨av, cv, rfl, iv, _⟩ := hown.form
          have hlv := farL_length (slaF m (wantC vs m) (wantB vs m)) zs
          rw [hlv]
          clear hlv
          have iv' := hide iv
          clear iv hown
          go_wp2_with fail
          refine (nearestF_any (slaF m (wantC vs m) (wantB vs m)) _ _ _ _ _ _ _ iz iv'.out hn hpos).mono ?_
          rintro e w3 ⟨v, rfl, ov, hb3⟩
          go_wp2
          go_ret
          exact ⟨v, rfl, by rw [HN.out, Int.toNat_natCast, unb_sla h4 HFM.out]; exact ov.le SQ.2.2.2.size, bnext SQ.2.2.2 hb3⟩
end Go.Proofs.YtgebplpbnaeckaaGreatDoor
