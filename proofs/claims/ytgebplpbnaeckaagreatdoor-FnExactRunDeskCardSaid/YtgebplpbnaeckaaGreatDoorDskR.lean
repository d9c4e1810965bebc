/- The desk of the program: the answer to a line. -/
import Derived.Test.YtgebplpbnaeckaaGreatDoorDskI
import Derived.Test.YtgebplpbnaeckaaGreatDoorDskQ
import Derived.Test.YtgebplpbnaeckaaGreatDoorDskE
import Derived.BigQuiet
import Derived.Deep.RegionWith
namespace Go.Proofs.YtgebplpbnaeckaaGreatDoor
open Go.RowKit Go.Joins

/-- what the program's variables hold that the desk reads -/
structure DV (w : World) : Prop where
  gv : GV w
  et : w.cell? ⟨1, 0, none⟩ = some (.iface 119 (.agg #[.pointer (some ⟨10, 49, none⟩)]))
  nq : ∃ a : Addr, w.cell? ⟨0, 0, none⟩ = some (.iface 221 (.pointer (some a)))
theorem DV.below {w w' : World} (h : DV w) (hb : Below w.heap.size w w') : DV w' := by
  obtain ⟨h1, h2, a, h3⟩ := h
  exact ⟨h1.below hb, (hb.cell (p := ⟨1, 0, none⟩) (World.block_lt_of_cell? w ⟨1, 0, none⟩ h2)).trans h2, a, (hb.cell (p := ⟨0, 0, none⟩) (World.block_lt_of_cell? w ⟨0, 0, none⟩ h3)).trans h3⟩
theorem split_was (s : ByteArray) (w : World) (hs : s.size ≤ 1048576) (hg : GV w) :
    Calls Tryz.prog 50 #[.string s, .string ⟨#[32]⟩] w fun e w' => (∃ (ps : List ByteArray) (g : Nat), e = .returned (.slice (some ⟨g, 0, none⟩) ps.length ps.length) ∧ w.heap.size ≤ g ∧ g < w'.heap.size ∧ (∀ k (hk : k < ps.length), w'.cell? ⟨g, k, none⟩ = some (.string ps[k])) ∧ ps.map (·.data.toList) = spl 32 s.data.toList ∧ ps.length ≤ s.size + 1) ∧ Below w.heap.size w w' := by
  obtain ⟨m, hm⟩ := hg.ml
  obtain ⟨ps, hps⟩ : ∃ ps, ps = Lib.splitB ⟨#[32]⟩ 0 (Lib.countB s ⟨#[32]⟩) s := ⟨_, rfl⟩
  have hlen : ps.length = Lib.countB s ⟨#[32]⟩ + 1 := by rw [hps]; exact Lib.splitB_all ⟨#[32]⟩ (Nat.le_refl _) 0 _ s rfl
  have hcl : Lib.countB s ⟨#[32]⟩ ≤ s.size := Lib.countB_le ⟨#[32]⟩ (Nat.le_refl _) s.size s (Nat.le_refl _)
  refine (Tryz.strings_Split s ⟨#[32]⟩ m w (by omega) hm (Nat.le_refl _)).mono ?_
  rintro e w' ⟨rfl, rfl⟩
  rw [← hps, ← hlen]
  refine ⟨⟨ps, w.heap.size, rfl, Nat.le_refl _, by simp, fun k hk => ?_, by rw [hps]; exact split_spl 32 s.size s (Nat.le_refl _), by omega⟩, bel1 _ _⟩
  rw [cell_of_block (heap_alloc_new w _) k]
  simp [hk]
/-- what answerTo answers -/
def AnE (R : ByteArray) (e : Ending) : Prop := (e = .returned (.tuple #[.string R, .nilIface])) ∨ (R = wrongB ∧ ∃ x t, e = .returned (.tuple #[.string x, .iface 64 (.agg #[.string t])])) ∨ (R = whatB ∧ ∃ x a, e = .returned (.tuple #[.string x, .iface 221 (.pointer (some a))]))
theorem look_some {t e : TypeId} {D : DataW Unit} {w : World} {b n : Nat} (ht : Tryz.prog.underlying t = some (.map 9 e)) (hz : ∀ w, (zeroValue e).run Tryz.prog w = .ok .nilFunc w) (h : w.ownsMap Tryz.prog 9 fnElem b n D) (s : ByteArray) (hs : s.size ≤ 1048576) :
    ∃ (v : Value) (q : Bool), (Instr.lookup t (.map (some b)) (.string s) true).run Tryz.prog w = .ok (.tuple #[v, .bool q]) w := by
  obtain ⟨v, ps, hrun, hv⟩ := h.look_ok strKeyed ht (hz w) fnElem_nil (str_key s (by unfold maxLen; omega))
  exact ⟨v, _, hrun⟩
theorem AbE.form {o : Option ByteArray} {e : Ending} (h : AbE o e) : ∃ S ev, e = .returned (.tuple #[.string S, ev]) ∧ ((o = some S ∧ ev = .nilIface) ∨ (o = none ∧ ∃ t, ev = .iface 64 (.agg #[.string t]))) := by
  rcases h with ⟨S, hO, rfl⟩ | ⟨hO, x, rfl⟩
  · exact ⟨S, _, rfl, .inl ⟨hO, rfl⟩⟩
  · exact ⟨_, _, rfl, .inr ⟨hO, x, rfl⟩⟩
theorem anE_of {R : ByteArray} {o : Option ByteArray} {S : ByteArray} {ev : Value} (h : R = o.getD wrongB) (hP : (o = some S ∧ ev = .nilIface) ∨ (o = none ∧ ∃ t, ev = .iface 64 (.agg #[.string t]))) : AnE R (.returned (.tuple #[.string S, ev])) := by
  rcases hP with ⟨rfl, rfl⟩ | ⟨rfl, t, rfl⟩
  · exact .inl (by rw [h]; rfl)
  · exact .inr (.inl ⟨h, S, t, rfl⟩)
theorem three (a x y z : ByteArray) : a = x ∨ a = y ∨ a = z ∨ (¬ a = x ∧ ¬ a = y ∧ ¬ a = z) := by
  by_cases h1 : a = x
  · exact .inl h1
  by_cases h2 : a = y
  · exact .inr (.inl h2)
  by_cases h3 : a = z
  · exact .inr (.inr (.inl h3))
  exact .inr (.inr (.inr ⟨h1, h2, h3⟩))
theorem fourW (a x y z u : ByteArray) : a = x ∨ a = y ∨ a = z ∨ a = u ∨ (¬ a = x ∧ ¬ a = y ∧ ¬ a = z ∧ ¬ a = u) := by
  rcases three a x y z with h | h | h | ⟨h1, h2, h3⟩
  · exact .inl h
  · exact .inr (.inl h)
  · exact .inr (.inr (.inl h))
  by_cases h4 : a = u
  · exact .inr (.inr (.inr (.inl h4)))
  exact .inr (.inr (.inr (.inr ⟨h1, h2, h3, h4⟩)))
theorem ansS_of {w t : ByteArray} (hw : isS w = true) : ansP [w, t] = (((parS t.data.toList).map fun p => (askS w p.1 p.2).getD wrongB).getD wrongB) := by
  cases h : parS t.data.toList with
  | none => rw [ansP_none h hw]; rfl
  | some p => obtain ⟨n, zs⟩ := p; rw [ansP_some h hw]; rfl
theorem ansV_of {w t u : ByteArray} (hw : isV w = true) : ansP [w, t, u] = (((parS t.data.toList).bind fun p => if votesB p.2 ((spl 44 u.data.toList).map rdN) = true then some ((askV w p.1 p.2 ((spl 44 u.data.toList).map rdN)).getD wrongB) else none).getD wrongB) := by
  cases h : parS t.data.toList with
  | none => rw [ansP_none3 h hw]; rfl
  | some p =>
    obtain ⟨n, zs⟩ := p
    cases hv : votesB zs ((spl 44 u.data.toList).map rdN) with
    | true => rw [ansP_some3 h hv hw]; simp [hv]
    | false => rw [ansP_bad3 h hv hw]; simp [hv]
theorem three_pcs {c : UInt8} {l p q r : List UInt8} (h : [p, q, r] = spl c l) : r.length + 2 ≤ l.length := by
  have h1 := join_spl c l
  rw [← h, join_cc, join_cc, Lib.join_one] at h1
  rw [← h1]
  simp only [List.length_append, List.length_cons, List.length_nil]
  omega
theorem tl_ne2 {a : ByteArray} {l : List UInt8} (h : ¬ a = ⟨l.toArray⟩) : (a.toList == l) = false := by
  rw [beq_eq_false_iff_ne]
  intro e
  rw [ByteArray.toList_eq] at e
  exact h (by rw [← e])
theorem bdrewN {w w1 : World} {k : Nat} (h : Below w.heap.size w w1) : Below w.heap.size w (w1.drewN k) := ⟨h.os, h.tape, h.output, h.size, h.block⟩
set_option maxHeartbeats 8000000 in
set_option maxRecDepth 100000 in
theorem answerTo_any (s : ByteArray) (w : World) (hs : s.size ≤ 1048576) (hd : DV w) :
    Calls Tryz.prog 32 #[.string s] w fun e w' => AnE (ansL s.data.toList) e ∧ Below w.heap.size w w' := by
  go_enter Tryz.func32, Tryz.ntmps32
  go_wp2_with fail
  refine (split_was s _ hs hd.gv).mono ?_
  rintro e w1 ⟨⟨ps, g, rfl, hg1, hg2, hcell, hps, hpl⟩, B1⟩
  have HN := hide (ansL_of hps)
  have hsm := pieces_small hps hs
  have h3p : ∀ x y z : ByteArray, ps = [x, y, z] → z.size + 2 ≤ 1048576 := fun x y z e => by
    subst e
    have h3 := three_pcs (p := x.data.toList) (q := y.data.toList) (r := z.data.toList) hps
    rw [Array.length_toList, Array.length_toList] at h3
    exact Nat.le_trans h3 hs
  have hpos := spl_pos hps
  clear hps
  rcases ps with _ | ⟨a, _ | ⟨t, _ | ⟨u, _ | ⟨x, r⟩⟩⟩⟩
  · exact absurd hpos (by simp)
  · have c0 := hcell 0 (by simp)
    simp only [List.getElem_cons_zero] at c0
    rw [show [a].length = 1 from rfl]
    clear hcell hpos h3p
    have haa := hsm a (by simp)
    clear hsm
    go_wp2_with fail
    go_quiet (fail)
    obtain ⟨W, hW⟩ : ∃ W, W = w1.drewN nq := ⟨_, rfl⟩
    rw [← hW]
    have BW : Below w.heap.size w W := by rw [hW]; exact bdrewN B1
    have dW : DV W := hd.below BW
    have dc0 : W.cell? ⟨g, 0, none⟩ = some (.string a) := by rw [hW]; exact c0
    have hgW : g < W.heap.size := by rw [hW]; exact hg2
    clear hW B1 hd c0 hg2
    go_wp2_with fail
    refine (spaceQuestions_any W).mono ?_
    rintro e w2 ⟨rfl, HM, hb2⟩
    have B2 := bnext BW hb2
    have d2 := dW.below hb2
    have e0 := (hb2.cell (p := ⟨g, 0, none⟩) hgW).trans dc0
    have hg2 : g < w2.heap.size := Nat.lt_of_lt_of_le hgW hb2.size
    clear BW dW hgW hb2 dc0
    obtain ⟨v2, q2, hl2⟩ := look_some Tryz.underlying85 zeroFnS HM a haa
    cases q2 with
    | true =>
      go_wp2_with fail
      refine (votesQuestions_any w2).mono ?_
      rintro e w3 ⟨rfl, HM3, hb3⟩
      have B3 := bnext B2 hb3
      have d3 := d2.below hb3
      have f0 := (hb3.cell (p := ⟨g, 0, none⟩) hg2).trans e0
      clear B2 d2 hb3 HM e0
      obtain ⟨v3, q3, hl3⟩ := look_some Tryz.underlying90 zeroFnV HM3 a haa
      clear HM3
      cases q3 with
      | true =>
        have HA : Hid (ansL s.data.toList = whatB) := HN.out.trans (ansP_one a)
        obtain ⟨ea, hea⟩ := d3.nq
        go_wp2_with fail
        go_quiet (fail)
        go_wp2
        go_ret2
        exact ⟨.inr (.inr ⟨HA.out, _, ea, rfl⟩), bdrewN B3⟩
      | false =>
        have HA : Hid (ansL s.data.toList = whatB) := HN.out.trans (ansP_one a)
        obtain ⟨ea, hea⟩ := d3.nq
        go_wp2_with fail
        go_quiet (fail)
        go_wp2
        go_ret2
        exact ⟨.inr (.inr ⟨HA.out, _, ea, rfl⟩), bdrewN B3⟩
    | false =>
      go_wp2_with fail
      refine (votesQuestions_any w2).mono ?_
      rintro e w3 ⟨rfl, HM3, hb3⟩
      have B3 := bnext B2 hb3
      have d3 := d2.below hb3
      have f0 := (hb3.cell (p := ⟨g, 0, none⟩) hg2).trans e0
      clear B2 d2 hb3 HM e0
      obtain ⟨v3, q3, hl3⟩ := look_some Tryz.underlying90 zeroFnV HM3 a haa
      clear HM3
      cases q3 with
      | true =>
        have HA : Hid (ansL s.data.toList = whatB) := HN.out.trans (ansP_one a)
        obtain ⟨ea, hea⟩ := d3.nq
        go_wp2_with fail
        go_quiet (fail)
        go_wp2
        go_ret2
        exact ⟨.inr (.inr ⟨HA.out, _, ea, rfl⟩), bdrewN B3⟩
      | false =>
        have HA : Hid (ansL s.data.toList = whatB) := HN.out.trans (ansP_one a)
        obtain ⟨ea, hea⟩ := d3.nq
        go_wp2_with fail
        go_quiet (fail)
        go_wp2
        go_ret2
        exact ⟨.inr (.inr ⟨HA.out, _, ea, rfl⟩), bdrewN B3⟩
  · have c0 := hcell 0 (by simp)
    have c1 := hcell 1 (by simp)
    simp only [List.getElem_cons_zero, List.getElem_cons_succ] at c0 c1
    rw [show [a, t].length = 2 from rfl]
    have htt := hsm t (by simp)
    clear hcell hpos h3p
    have haa := hsm a (by simp)
    clear hsm
    go_wp2_with fail
    go_quiet (fail)
    obtain ⟨W, hW⟩ : ∃ W, W = w1.drewN nq := ⟨_, rfl⟩
    rw [← hW]
    have BW : Below w.heap.size w W := by rw [hW]; exact bdrewN B1
    have dW : DV W := hd.below BW
    have dc0 : W.cell? ⟨g, 0, none⟩ = some (.string a) := by rw [hW]; exact c0
    have dc1 : W.cell? ⟨g, 1, none⟩ = some (.string t) := by rw [hW]; exact c1
    have hgW : g < W.heap.size := by rw [hW]; exact hg2
    clear hW B1 hd c0 c1 hg2
    go_wp2_with fail
    refine (spaceQuestions_any W).mono ?_
    rintro e w2 ⟨rfl, HM, hb2⟩
    have B2 := bnext BW hb2
    have d2 := dW.below hb2
    have e0 := (hb2.cell (p := ⟨g, 0, none⟩) hgW).trans dc0
    have e1 := (hb2.cell (p := ⟨g, 1, none⟩) hgW).trans dc1
    have hg2 : g < w2.heap.size := Nat.lt_of_lt_of_le hgW hb2.size
    clear BW dW hgW hb2 dc0 dc1
    rcases three a ⟨#[99, 114, 105, 116, 105, 99, 97, 108]⟩ ⟨#[109, 101, 100, 105, 97, 110]⟩ ⟨#[98, 108, 111, 99, 107, 101, 100]⟩ with rfl | rfl | rfl | ⟨h1, h2, h3⟩
    · have hl2 := look_yes Tryz.underlying85 zeroFnS HM ⟨#[99, 114, 105, 116, 105, 99, 97, 108]⟩ 72 (by decide) mapS_crit.1 mapS_crit.2
      clear HM
      go_wp2_with fail
      refine (aboutCrit_any t _ htt d2.gv).mono ?_
      rintro e w4 ⟨hE, hb4⟩
      rcases hE with ⟨S, hO, rfl⟩ | ⟨hO, x, rfl⟩
      · have HA : Hid (ansL s.data.toList = S) := HN.out.trans ((ansS_of (w := ⟨#[99, 114, 105, 116, 105, 99, 97, 108]⟩) (t := t) rfl).trans (by rw [hO]; rfl))
        clear hO
        go_wp2
        go_ret2
        exact ⟨.inl (by rw [HA.out]; rfl), bnext B2 hb4⟩
      · have HA : Hid (ansL s.data.toList = wrongB) := HN.out.trans ((ansS_of (w := ⟨#[99, 114, 105, 116, 105, 99, 97, 108]⟩) (t := t) rfl).trans (by rw [hO]; rfl))
        clear hO
        go_wp2
        go_ret2
        exact ⟨.inr (.inl ⟨HA.out, _, x, rfl⟩), bnext B2 hb4⟩
    · have hl2 := look_yes Tryz.underlying85 zeroFnS HM ⟨#[109, 101, 100, 105, 97, 110]⟩ 75 (by decide) mapS_medn.1 mapS_medn.2
      clear HM
      go_wp2_with fail
      refine (aboutMedn_any t _ htt d2.gv).mono ?_
      rintro e w4 ⟨hE, hb4⟩
      rcases hE with ⟨S, hO, rfl⟩ | ⟨hO, x, rfl⟩
      · have HA : Hid (ansL s.data.toList = S) := HN.out.trans ((ansS_of (w := ⟨#[109, 101, 100, 105, 97, 110]⟩) (t := t) rfl).trans (by rw [hO]; rfl))
        clear hO
        go_wp2
        go_ret2
        exact ⟨.inl (by rw [HA.out]; rfl), bnext B2 hb4⟩
      · have HA : Hid (ansL s.data.toList = wrongB) := HN.out.trans ((ansS_of (w := ⟨#[109, 101, 100, 105, 97, 110]⟩) (t := t) rfl).trans (by rw [hO]; rfl))
        clear hO
        go_wp2
        go_ret2
        exact ⟨.inr (.inl ⟨HA.out, _, x, rfl⟩), bnext B2 hb4⟩
    · have hl2 := look_yes Tryz.underlying85 zeroFnS HM ⟨#[98, 108, 111, 99, 107, 101, 100]⟩ 78 (by decide) mapS_blck.1 mapS_blck.2
      clear HM
      go_wp2_with fail
      refine (aboutBlck_any t _ htt d2.gv).mono ?_
      rintro e w4 ⟨hE, hb4⟩
      rcases hE with ⟨S, hO, rfl⟩ | ⟨hO, x, rfl⟩
      · have HA : Hid (ansL s.data.toList = S) := HN.out.trans ((ansS_of (w := ⟨#[98, 108, 111, 99, 107, 101, 100]⟩) (t := t) rfl).trans (by rw [hO]; rfl))
        clear hO
        go_wp2
        go_ret2
        exact ⟨.inl (by rw [HA.out]; rfl), bnext B2 hb4⟩
      · have HA : Hid (ansL s.data.toList = wrongB) := HN.out.trans ((ansS_of (w := ⟨#[98, 108, 111, 99, 107, 101, 100]⟩) (t := t) rfl).trans (by rw [hO]; rfl))
        clear hO
        go_wp2
        go_ret2
        exact ⟨.inr (.inl ⟨HA.out, _, x, rfl⟩), bnext B2 hb4⟩
    · have HAP := hide (ansP_what (t := t) (isS_no h1 h2 h3))
      have hl2 := look_no Tryz.underlying85 zeroFnS HM a haa (mapS_none h1 h2 h3).1 (mapS_none h1 h2 h3).2
      clear h1 h2 h3
      go_wp2_with fail
      refine (votesQuestions_any w2).mono ?_
      rintro e w3 ⟨rfl, HM3, hb3⟩
      have B3 := bnext B2 hb3
      have d3 := d2.below hb3
      have f0 := (hb3.cell (p := ⟨g, 0, none⟩) hg2).trans e0
      have f1 := (hb3.cell (p := ⟨g, 1, none⟩) hg2).trans e1
      clear B2 d2 hb3 HM e0 e1
      obtain ⟨v3, q3, hl3⟩ := look_some Tryz.underlying90 zeroFnV HM3 a haa
      clear HM3
      cases q3 with
      | true =>
        have HA : Hid (ansL s.data.toList = whatB) := HN.out.trans HAP.out
        obtain ⟨ea, hea⟩ := d3.nq
        go_wp2_with fail
        go_quiet (fail)
        go_wp2
        go_ret2
        exact ⟨.inr (.inr ⟨HA.out, _, ea, rfl⟩), bdrewN B3⟩
      | false =>
        have HA : Hid (ansL s.data.toList = whatB) := HN.out.trans HAP.out
        obtain ⟨ea, hea⟩ := d3.nq
        go_wp2_with fail
        go_quiet (fail)
        go_wp2
        go_ret2
        exact ⟨.inr (.inr ⟨HA.out, _, ea, rfl⟩), bdrewN B3⟩
  · have c0 := hcell 0 (by simp)
    have c1 := hcell 1 (by simp)
    have c2 := hcell 2 (by simp)
    simp only [List.getElem_cons_zero, List.getElem_cons_succ] at c0 c1 c2
    rw [show [a, t, u].length = 3 from rfl]
    have htt := hsm t (by simp)
    have hu2 := h3p a t u rfl
    clear hcell hpos h3p
    have haa := hsm a (by simp)
    clear hsm
    go_wp2_with fail
    go_quiet (fail)
    obtain ⟨W, hW⟩ : ∃ W, W = w1.drewN nq := ⟨_, rfl⟩
    rw [← hW]
    have BW : Below w.heap.size w W := by rw [hW]; exact bdrewN B1
    have dW : DV W := hd.below BW
    have dc0 : W.cell? ⟨g, 0, none⟩ = some (.string a) := by rw [hW]; exact c0
    have dc1 : W.cell? ⟨g, 1, none⟩ = some (.string t) := by rw [hW]; exact c1
    have dc2 : W.cell? ⟨g, 2, none⟩ = some (.string u) := by rw [hW]; exact c2
    have hgW : g < W.heap.size := by rw [hW]; exact hg2
    clear hW B1 hd c0 c1 c2 hg2
    go_wp2_with fail
    refine (spaceQuestions_any W).mono ?_
    rintro e w2 ⟨rfl, HM, hb2⟩
    have B2 := bnext BW hb2
    have d2 := dW.below hb2
    have e0 := (hb2.cell (p := ⟨g, 0, none⟩) hgW).trans dc0
    have e1 := (hb2.cell (p := ⟨g, 1, none⟩) hgW).trans dc1
    have e2 := (hb2.cell (p := ⟨g, 2, none⟩) hgW).trans dc2
    have hg2 : g < w2.heap.size := Nat.lt_of_lt_of_le hgW hb2.size
    clear BW dW hgW hb2 dc0 dc1 dc2
    obtain ⟨v2, q2, hl2⟩ := look_some Tryz.underlying85 zeroFnS HM a haa
    cases q2 with
    | true =>
      go_wp2_with fail
      refine (votesQuestions_any w2).mono ?_
      rintro e w3 ⟨rfl, HM3, hb3⟩
      have B3 := bnext B2 hb3
      have d3 := d2.below hb3
      have f0 := (hb3.cell (p := ⟨g, 0, none⟩) hg2).trans e0
      have f1 := (hb3.cell (p := ⟨g, 1, none⟩) hg2).trans e1
      have f2 := (hb3.cell (p := ⟨g, 2, none⟩) hg2).trans e2
      clear B2 d2 hb3 HM e0 e1 e2
      rcases fourW a ⟨#[109, 97, 106, 111, 114, 105, 116, 121]⟩ ⟨#[109, 101, 100, 105, 97, 110, 115]⟩ ⟨#[115, 108, 97, 116, 101, 114]⟩ ⟨#[114, 97, 110, 107, 101, 100]⟩ with rfl | rfl | rfl | rfl | ⟨h1, h2, h3, h4⟩
      · have hl3 := look_yes Tryz.underlying90 zeroFnV HM3 ⟨#[109, 97, 106, 111, 114, 105, 116, 121]⟩ 81 (by decide) mapV_majr.1 mapV_majr.2
        clear HM3
        have HAB := hide (fun W hg => aboutMajr_any t u W htt hu2 hg)
        have HAN := hide (ansV_of (w := ⟨#[109, 97, 106, 111, 114, 105, 116, 121]⟩) (t := t) (u := u) rfl)
        go_wp2_with fail
        go_region_with (first | (go_at_call 54; refine (HAB.out _ (d3.gv.drew)).mono ?_; rintro e w4 ⟨hE, hb4⟩; obtain ⟨S, ev, rfl, hP⟩ := hE.form))
        all_goals (go_wp2; go_ret2)
        all_goals (refine ⟨anE_of (HN.out.trans HAN.out) hP, bnext (bdrew' B3) hb4⟩)
      · have hl3 := look_yes Tryz.underlying90 zeroFnV HM3 ⟨#[109, 101, 100, 105, 97, 110, 115]⟩ 83 (by decide) mapV_mdns.1 mapV_mdns.2
        clear HM3
        have HAB := hide (fun W hg => aboutMdns_any t u W htt hu2 hg)
        have HAN := hide (ansV_of (w := ⟨#[109, 101, 100, 105, 97, 110, 115]⟩) (t := t) (u := u) rfl)
        go_wp2_with fail
        go_region_with (first | (go_at_call 54; refine (HAB.out _ (d3.gv.drew)).mono ?_; rintro e w4 ⟨hE, hb4⟩; obtain ⟨S, ev, rfl, hP⟩ := hE.form))
        all_goals (go_wp2; go_ret2)
        all_goals (refine ⟨anE_of (HN.out.trans HAN.out) hP, bnext (bdrew' B3) hb4⟩)
      · have hl3 := look_yes Tryz.underlying90 zeroFnV HM3 ⟨#[115, 108, 97, 116, 101, 114]⟩ 86 (by decide) mapV_slat.1 mapV_slat.2
        clear HM3
        have HAB := hide (fun W hg => aboutSlat_any t u W htt hu2 hg)
        have HAN := hide (ansV_of (w := ⟨#[115, 108, 97, 116, 101, 114]⟩) (t := t) (u := u) rfl)
        go_wp2_with fail
        go_region_with (first | (go_at_call 54; refine (HAB.out _ (d3.gv.drew)).mono ?_; rintro e w4 ⟨hE, hb4⟩; obtain ⟨S, ev, rfl, hP⟩ := hE.form))
        all_goals (go_wp2; go_ret2)
        all_goals (refine ⟨anE_of (HN.out.trans HAN.out) hP, bnext (bdrew' B3) hb4⟩)
      · have hl3 := look_yes Tryz.underlying90 zeroFnV HM3 ⟨#[114, 97, 110, 107, 101, 100]⟩ 88 (by decide) mapV_rank.1 mapV_rank.2
        clear HM3
        have HAB := hide (fun W hg => aboutRank_any t u W htt hu2 hg)
        have HAN := hide (ansV_of (w := ⟨#[114, 97, 110, 107, 101, 100]⟩) (t := t) (u := u) rfl)
        go_wp2_with fail
        go_region_with (first | (go_at_call 54; refine (HAB.out _ (d3.gv.drew)).mono ?_; rintro e w4 ⟨hE, hb4⟩; obtain ⟨S, ev, rfl, hP⟩ := hE.form))
        all_goals (go_wp2; go_ret2)
        all_goals (refine ⟨anE_of (HN.out.trans HAN.out) hP, bnext (bdrew' B3) hb4⟩)
      · have HAP := hide (ansP_what3 (t := t) (v := u) (isV_no h1 h2 h3 h4))
        have hl3 := look_no Tryz.underlying90 zeroFnV HM3 a haa (mapV_none h1 h2 h3 h4).1 (mapV_none h1 h2 h3 h4).2
        clear h1 h2 h3 h4 HM3
        have HA : Hid (ansL s.data.toList = whatB) := HN.out.trans HAP.out
        obtain ⟨ea, hea⟩ := d3.nq
        go_wp2_with fail
        go_quiet (fail)
        go_wp2
        go_ret2
        exact ⟨.inr (.inr ⟨HA.out, _, ea, rfl⟩), bdrewN B3⟩
    | false =>
      go_wp2_with fail
      refine (votesQuestions_any w2).mono ?_
      rintro e w3 ⟨rfl, HM3, hb3⟩
      have B3 := bnext B2 hb3
      have d3 := d2.below hb3
      have f0 := (hb3.cell (p := ⟨g, 0, none⟩) hg2).trans e0
      have f1 := (hb3.cell (p := ⟨g, 1, none⟩) hg2).trans e1
      have f2 := (hb3.cell (p := ⟨g, 2, none⟩) hg2).trans e2
      clear B2 d2 hb3 HM e0 e1 e2
      rcases fourW a ⟨#[109, 97, 106, 111, 114, 105, 116, 121]⟩ ⟨#[109, 101, 100, 105, 97, 110, 115]⟩ ⟨#[115, 108, 97, 116, 101, 114]⟩ ⟨#[114, 97, 110, 107, 101, 100]⟩ with rfl | rfl | rfl | rfl | ⟨h1, h2, h3, h4⟩
      · have hl3 := look_yes Tryz.underlying90 zeroFnV HM3 ⟨#[109, 97, 106, 111, 114, 105, 116, 121]⟩ 81 (by decide) mapV_majr.1 mapV_majr.2
        clear HM3
        have HAB := hide (fun W hg => aboutMajr_any t u W htt hu2 hg)
        have HAN := hide (ansV_of (w := ⟨#[109, 97, 106, 111, 114, 105, 116, 121]⟩) (t := t) (u := u) rfl)
        go_wp2_with fail
        go_region_with (first | (go_at_call 54; refine (HAB.out _ (d3.gv.drew)).mono ?_; rintro e w4 ⟨hE, hb4⟩; obtain ⟨S, ev, rfl, hP⟩ := hE.form))
        all_goals (go_wp2; go_ret2)
        all_goals (refine ⟨anE_of (HN.out.trans HAN.out) hP, bnext (bdrew' B3) hb4⟩)
      · have hl3 := look_yes Tryz.underlying90 zeroFnV HM3 ⟨#[109, 101, 100, 105, 97, 110, 115]⟩ 83 (by decide) mapV_mdns.1 mapV_mdns.2
        clear HM3
        have HAB := hide (fun W hg => aboutMdns_any t u W htt hu2 hg)
        have HAN := hide (ansV_of (w := ⟨#[109, 101, 100, 105, 97, 110, 115]⟩) (t := t) (u := u) rfl)
        go_wp2_with fail
        go_region_with (first | (go_at_call 54; refine (HAB.out _ (d3.gv.drew)).mono ?_; rintro e w4 ⟨hE, hb4⟩; obtain ⟨S, ev, rfl, hP⟩ := hE.form))
        all_goals (go_wp2; go_ret2)
        all_goals (refine ⟨anE_of (HN.out.trans HAN.out) hP, bnext (bdrew' B3) hb4⟩)
      · have hl3 := look_yes Tryz.underlying90 zeroFnV HM3 ⟨#[115, 108, 97, 116, 101, 114]⟩ 86 (by decide) mapV_slat.1 mapV_slat.2
        clear HM3
        have HAB := hide (fun W hg => aboutSlat_any t u W htt hu2 hg)
        have HAN := hide (ansV_of (w := ⟨#[115, 108, 97, 116, 101, 114]⟩) (t := t) (u := u) rfl)
        go_wp2_with fail
        go_region_with (first | (go_at_call 54; refine (HAB.out _ (d3.gv.drew)).mono ?_; rintro e w4 ⟨hE, hb4⟩; obtain ⟨S, ev, rfl, hP⟩ := hE.form))
        all_goals (go_wp2; go_ret2)
        all_goals (refine ⟨anE_of (HN.out.trans HAN.out) hP, bnext (bdrew' B3) hb4⟩)
      · have hl3 := look_yes Tryz.underlying90 zeroFnV HM3 ⟨#[114, 97, 110, 107, 101, 100]⟩ 88 (by decide) mapV_rank.1 mapV_rank.2
        clear HM3
        have HAB := hide (fun W hg => aboutRank_any t u W htt hu2 hg)
        have HAN := hide (ansV_of (w := ⟨#[114, 97, 110, 107, 101, 100]⟩) (t := t) (u := u) rfl)
        go_wp2_with fail
        go_region_with (first | (go_at_call 54; refine (HAB.out _ (d3.gv.drew)).mono ?_; rintro e w4 ⟨hE, hb4⟩; obtain ⟨S, ev, rfl, hP⟩ := hE.form))
        all_goals (go_wp2; go_ret2)
        all_goals (refine ⟨anE_of (HN.out.trans HAN.out) hP, bnext (bdrew' B3) hb4⟩)
      · have HAP := hide (ansP_what3 (t := t) (v := u) (isV_no h1 h2 h3 h4))
        have hl3 := look_no Tryz.underlying90 zeroFnV HM3 a haa (mapV_none h1 h2 h3 h4).1 (mapV_none h1 h2 h3 h4).2
        clear h1 h2 h3 h4 HM3
        have HA : Hid (ansL s.data.toList = whatB) := HN.out.trans HAP.out
        obtain ⟨ea, hea⟩ := d3.nq
        go_wp2_with fail
        go_quiet (fail)
        go_wp2
        go_ret2
        exact ⟨.inr (.inr ⟨HA.out, _, ea, rfl⟩), bdrewN B3⟩
  · have c0 := hcell 0 (by simp)
    simp only [List.getElem_cons_zero] at c0
    obtain ⟨m, hm⟩ : ∃ m, (a :: t :: u :: x :: r).length = m := ⟨_, rfl⟩
    have h4 : 4 ≤ m := by rw [← hm]; simp
    rw [hm] at hpl ⊢
    clear hm hcell hpos h3p
    have hm1 : ((m : Int) - 1) = ((m - 1 : Nat) : Int) := by omega
    obtain ⟨k, hk⟩ : ∃ k, m - 1 = k := ⟨_, rfl⟩
    have hk3 : 3 ≤ k := by omega
    have n1 : ¬ (k : Int) = 1 := by omega
    have n2 : ¬ (k : Int) = 2 := by omega
    rw [hk] at hm1
    have haa := hsm a (by simp)
    clear hsm
    go_wp2_with fail
    go_quiet (fail)
    obtain ⟨W, hW⟩ : ∃ W, W = w1.drewN nq := ⟨_, rfl⟩
    rw [← hW]
    have BW : Below w.heap.size w W := by rw [hW]; exact bdrewN B1
    have dW : DV W := hd.below BW
    have dc0 : W.cell? ⟨g, 0, none⟩ = some (.string a) := by rw [hW]; exact c0
    have hgW : g < W.heap.size := by rw [hW]; exact hg2
    clear hW B1 hd c0 hg2
    go_wp2_with fail
    refine (spaceQuestions_any W).mono ?_
    rintro e w2 ⟨rfl, HM, hb2⟩
    have B2 := bnext BW hb2
    have d2 := dW.below hb2
    have e0 := (hb2.cell (p := ⟨g, 0, none⟩) hgW).trans dc0
    have hg2 : g < w2.heap.size := Nat.lt_of_lt_of_le hgW hb2.size
    clear BW dW hgW hb2 dc0
    obtain ⟨v2, q2, hl2⟩ := look_some Tryz.underlying85 zeroFnS HM a haa
    cases q2 with
    | true =>
      go_wp2_with fail
      refine (votesQuestions_any w2).mono ?_
      rintro e w3 ⟨rfl, HM3, hb3⟩
      have B3 := bnext B2 hb3
      have d3 := d2.below hb3
      have f0 := (hb3.cell (p := ⟨g, 0, none⟩) hg2).trans e0
      clear B2 d2 hb3 HM e0
      obtain ⟨v3, q3, hl3⟩ := look_some Tryz.underlying90 zeroFnV HM3 a haa
      clear HM3
      cases q3 with
      | true =>
        have HA : Hid (ansL s.data.toList = whatB) := HN.out.trans (ansP_more a t u x r)
        obtain ⟨ea, hea⟩ := d3.nq
        go_wp2_with fail
        go_quiet (fail)
        go_wp2
        go_ret2
        exact ⟨.inr (.inr ⟨HA.out, _, ea, rfl⟩), bdrewN B3⟩
      | false =>
        have HA : Hid (ansL s.data.toList = whatB) := HN.out.trans (ansP_more a t u x r)
        obtain ⟨ea, hea⟩ := d3.nq
        go_wp2_with fail
        go_quiet (fail)
        go_wp2
        go_ret2
        exact ⟨.inr (.inr ⟨HA.out, _, ea, rfl⟩), bdrewN B3⟩
    | false =>
      go_wp2_with fail
      refine (votesQuestions_any w2).mono ?_
      rintro e w3 ⟨rfl, HM3, hb3⟩
      have B3 := bnext B2 hb3
      have d3 := d2.below hb3
      have f0 := (hb3.cell (p := ⟨g, 0, none⟩) hg2).trans e0
      clear B2 d2 hb3 HM e0
      obtain ⟨v3, q3, hl3⟩ := look_some Tryz.underlying90 zeroFnV HM3 a haa
      clear HM3
      cases q3 with
      | true =>
        have HA : Hid (ansL s.data.toList = whatB) := HN.out.trans (ansP_more a t u x r)
        obtain ⟨ea, hea⟩ := d3.nq
        go_wp2_with fail
        go_quiet (fail)
        go_wp2
        go_ret2
        exact ⟨.inr (.inr ⟨HA.out, _, ea, rfl⟩), bdrewN B3⟩
      | false =>
        have HA : Hid (ansL s.data.toList = whatB) := HN.out.trans (ansP_more a t u x r)
        obtain ⟨ea, hea⟩ := d3.nq
        go_wp2_with fail
        go_quiet (fail)
        go_wp2
        go_ret2
        exact ⟨.inr (.inr ⟨HA.out, _, ea, rfl⟩), bdrewN B3⟩
end Go.Proofs.YtgebplpbnaeckaaGreatDoor
