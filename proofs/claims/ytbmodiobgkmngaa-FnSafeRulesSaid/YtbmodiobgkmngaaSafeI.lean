/- IsSafe in the program. -/
import Derived.Test.YtbmodiobgkmngaaSafeM
import Derived.Deep.RegionHeld3
import Derived.Deep.RegionLawGrows
import Derived.Test.YtbmodiobgkmngaaSpare
namespace Go.Proofs.Ytbmodiobgkmngaa
open Go.RowKit Go.Joins

/-- a call of staysIn under way: the boxes of space, rule and votes; the votes' own row -/
def StI (w0 : World) (base : Nat) (n : Int) (a : Option Addr) (zs : List Int) (cap : Nat) (v : Int) (b : Option Addr) (ws : List Int) (capb : Nat) (vv : Value) (vs : List Int) (wq : World) : Prop :=
  (Box wq w0.heap.size n a zs.length cap ∧ Box wq (w0.heap.size + 1) v b ws.length capb ∧ wq.heap[w0.heap.size + 2]? = some (.cells #[vv] 23 (0, 0))) ∧ Ints wq a zs ∧ Ints wq b ws ∧ w0.grownBy wq vv.ownBlock ∧ Owns wq base vv vs ∧ w0.heap.size + 3 ≤ wq.heap.size
/-- what is older than the votes' rows -/
def Low (base : Nat) (a : Option Addr) : Prop := ∀ g o s, a = some ⟨g, o, s⟩ → g < base
theorem Ints.far {w w' : World} {a : Option Addr} {zs : List Int} {row : Option Nat} (h : Ints w a zs) (hg : w.grownBy w' row) (hne : ∀ g o s, a = some ⟨g, o, s⟩ → row ≠ some g) : Ints w' a zs := fun hz => by
  obtain ⟨b, off, e, hlt, hc⟩ := h hz
  exact ⟨b, off, e, Nat.lt_of_lt_of_le hlt hg.size, fun k hk => hg.cell (hc k hk) (fun e' => hne b off none e e'.symm)⟩
theorem Box.far {w w' : World} {g : Nat} {n : Int} {a : Option Addr} {len cap : Nat} {row : Option Nat} (h : Box w g n a len cap) (hg : w.grownBy w' row) (hne : row ≠ some g) : Box w' g n a len cap :=
  ⟨Nat.lt_of_lt_of_le h.1 hg.size, hg.cell h.2.1 (fun e => hne e.symm), hg.cell h.2.2 (fun e => hne e.symm)⟩
theorem grown_trans {w w' w'' : World} {row row' : Option Nat} (h : w.grownBy w' row) (hg : w'.grownBy w'' row') (hr : ∀ k, row' = some k → row = some k ∨ w.heap.size ≤ k) : w.grownBy w'' row :=
  ⟨hg.os.trans h.os, hg.tape.trans h.tape, hg.output.trans h.output, Nat.le_trans h.size hg.size, fun k hk hne =>
    (hg.block k (Nat.lt_of_lt_of_le hk h.size) (fun e => by
      rcases hr k e.symm with h' | h'
      · exact hne h'.symm
      · omega)).trans (h.block k hk hne)⟩
theorem StI.move {w0 wq w' : World} {base cap capb : Nat} {n v : Int} {a b : Option Addr} {zs ws vs : List Int} {vv : Value} {row : Option Nat} (h : StI w0 base n a zs cap v b ws capb vv vs wq)
    (ha : Low base a) (hb : Low base b) (hbw : base ≤ w0.heap.size) (hv : ∀ k, vv.ownBlock = some k → k < w0.heap.size)
    (hg : wq.grownBy w' row) (hr : ∀ k, row = some k → vv.ownBlock = some k ∨ w0.heap.size + 3 ≤ k) (ho : Owns w' base vv vs) : StI w0 base n a zs cap v b ws capb vv vs w' := by
  obtain ⟨⟨h1, h2, h3⟩, h4, h5, h6, h7, h8⟩ := h
  have hge := own_ge h7
  have hne : ∀ j, w0.heap.size ≤ j → j < w0.heap.size + 3 → row ≠ some j := fun j hj hj3 e => by
    rcases hr j e with h' | h'
    · have := hv j h'; omega
    · omega
  have hlow : ∀ j, j < base → row ≠ some j := fun j hj e => by
    rcases hr j e with h' | h'
    · have := hge j h'; omega
    · omega
  refine ⟨⟨h1.far hg (hne _ (by omega) (by omega)), h2.far hg (hne _ (by omega) (by omega)), (hg.block _ (by omega) (fun e => hne _ (by omega) (by omega) e.symm)).trans h3⟩, h4.far hg (fun g o s e => hlow g (ha g o s e)), h5.far hg (fun g o s e => hlow g (hb g o s e)), grown_trans h6 hg (fun k hk => ?_), ho, Nat.le_trans h8 hg.size⟩
  rcases hr k hk with h' | h'
  · exact .inl h'
  · exact .inr (by omega)
theorem grown_none {w w' : World} (hb : Below w.heap.size w w') : w.grownBy w' none := ⟨hb.os, hb.tape, hb.output, hb.size, fun k hk _ => hb.block k hk⟩
theorem none_below {w w' : World} (hg : w.grownBy w' none) : Below w.heap.size w w' := (Below.refl _ _).grown hg (Nat.le_refl _) (fun k hk => by cases hk)
theorem StI.below {w0 wq w' : World} {base cap capb : Nat} {n v : Int} {a b : Option Addr} {zs ws vs : List Int} {vv : Value} (h : StI w0 base n a zs cap v b ws capb vv vs wq)
    (ha : Low base a) (hb : Low base b) (hbw : base ≤ w0.heap.size) (hv : ∀ k, vv.ownBlock = some k → k < w0.heap.size) (hB : Below wq.heap.size wq w') : StI w0 base n a zs cap v b ws capb vv vs w' :=
  h.move ha hb hbw hv (grown_none hB) (fun k hk => by cases hk) (h.2.2.2.2.1.below hB)
theorem StI.new {w : World} {base cap capb : Nat} {n v : Int} {a b : Option Addr} {zs ws vs : List Int} {vv : Value} (hi : Ints w a zs) (hj : Ints w b ws) (ho : Owns w base vv vs) :
    StI w base n a zs cap v b ws capb vv vs (((w.alloc (.cells #[.int .i64 n, .slice a zs.length cap] 25)).alloc (.cells #[.int .i64 v, .slice b ws.length capb] 34)).alloc (.cells #[vv] 23)) := by
  have B2 := bel2 w (.cells #[.int .i64 n, .slice a zs.length cap] 25) (.cells #[.int .i64 v, .slice b ws.length capb] 34)
  have bx := Box.new (w.alloc (.cells #[.int .i64 n, .slice a zs.length cap] 25)) v b ws.length capb 34
  have bv := heap_alloc_new ((w.alloc (.cells #[.int .i64 n, .slice a zs.length cap] 25)).alloc (.cells #[.int .i64 v, .slice b ws.length capb] 34)) (.cells #[vv] 23)
  simp only [World.size_alloc] at bx bv
  have B3 := bel1 ((w.alloc (.cells #[.int .i64 n, .slice a zs.length cap] 25)).alloc (.cells #[.int .i64 v, .slice b ws.length capb] 34)) (.cells #[vv] 23)
  have BB := bnext B2 B3
  exact ⟨⟨((Box.new _ _ _ _ _ _).below (bel1 _ _)).below B3, bx.below B3, bv⟩, hi.below BB, hj.below BB,
    ⟨BB.os, BB.tape, BB.output, BB.size, fun k hk _ => BB.block k hk⟩, ho.below BB, by simp⟩
theorem StI.cells {w0 wq : World} {base cap capb : Nat} {n v : Int} {a b : Option Addr} {zs ws vs : List Int} {vv : Value} (h : StI w0 base n a zs cap v b ws capb vv vs wq) :
    wq.cell? ⟨w0.heap.size, 0, none⟩ = some (.int .i64 n) ∧ wq.cell? ⟨w0.heap.size, 1, none⟩ = some (.slice a zs.length cap) ∧ wq.cell? ⟨w0.heap.size + 1, 0, none⟩ = some (.int .i64 v) ∧ wq.cell? ⟨w0.heap.size + 1, 1, none⟩ = some (.slice b ws.length capb) ∧ wq.cell? ⟨w0.heap.size + 2, 0, none⟩ = some vv :=
  ⟨h.1.1.2.1, h.1.1.2.2, h.1.2.1.2.1, h.1.2.1.2.2, cell_of_block h.1.2.2 0⟩
/-- what staysIn leaves -/
def StPost (base : Nat) (vv : Value) (vs : List Int) (r : Bool) (w : World) (e : Ending) (w' : World) : Prop := e = .returned (.bool r) ∧ w.grownBy w' vv.ownBlock ∧ Owns w' base vv vs
def IdxIPost (p : Int → Bool) (zs : List Int) (I : World → Prop) (e : Ending) (w' : World) : Prop :=
  ∃ r : Int, (zs.any p = true ∧ 0 ≤ r ∨ zs.any p = false ∧ r = -1) ∧ r ≤ 1048576 ∧ e = .returned (.int .i64 r) ∧ I w'
set_option maxHeartbeats 1000000 in
theorem indexFuncS_any (p : Int → Bool) (I : World → Prop) (a : Option Addr) (cap g1 g2 g3 : Nat) (zs : List Int) (hI : ∀ w', I w' → Ints w' a zs) (hn : zs.length ≤ 1048576)
    (hf : ∀ (x : Int) (w' : World), x ∈ zs → I w' → Calls Try.prog 58 #[.int .i64 x, .pointer (some ⟨g1, 0, none⟩), .pointer (some ⟨g2, 0, none⟩), .pointer (some ⟨g3, 0, none⟩)] w' fun e w'' => e = .returned (.bool (p x)) ∧ I w'') (w : World) (hw : I w) :
    Calls Try.prog 80 #[.slice a zs.length cap, .func (.func 58) #[] #[.pointer (some ⟨g1, 0, none⟩), .pointer (some ⟨g2, 0, none⟩), .pointer (some ⟨g3, 0, none⟩)]] w (IdxIPost p zs I) := by
  have HF := hide hf
  have HI := hide hI
  clear hf hI
  go_enter Try.func80, Try.ntmps80
  go_wp2_with fail
  go_loopw [8] (fun i wr => ∃ k : Nat, k ≤ zs.length ∧ i = .int .i64 k ∧ (∀ j, j < k → p (zs.getD j 0) = false) ∧ I wr) (fun i _ => zs.length - (intOf i).toNat)
  case atStart => exact ⟨0, Nat.zero_le _, rfl, fun j hj => by omega, hw⟩
  case round =>
    obtain ⟨k, hk, rfl, hall, hb⟩ := hrel
    have HA := hide hall
    clear hall
    by_cases hlt : k < zs.length
    · obtain ⟨bb, off, rfl, hbl, hc⟩ := (HI.out _ hb) (by omega)
      have hck := hc k hlt
      rw [getD_lt hlt] at hck
      clear hc
      by_cases he : p zs[k] = true
      · have HF2 := hide (any_true hlt he)
        have HE := hide he
        clear he
        go_wp2_with fail
        refine (HF.out _ _ (mem_of_at hlt) hb).mono ?_
        rintro e w1 ⟨rfl, h1⟩
        have he := HE.out
        go_wp2
        go_ret
        exact ⟨k, .inl ⟨HF2.out, by omega⟩, by omega, rfl, h1⟩
      · have he : p zs[k] = false := by simpa using he
        have HE := hide he
        clear he
        go_wp2_with fail
        refine (HF.out _ _ (mem_of_at hlt) hb).mono ?_
        rintro e w1 ⟨rfl, h1⟩
        have he := HE.out
        go_wp2
        go_roundw
        case rel => exact ⟨k + 1, by omega, by go_num, fun j hj => by
          rcases Nat.lt_or_ge j k with h | h
          · exact HA.out j h
          · obtain rfl : j = k := by omega
            rw [getD_lt hlt]
            exact HE.out, h1⟩
        case measure => simp only [intOf]; omega
    · obtain rfl : k = zs.length := by omega
      go_wp2
      go_ret
      exact ⟨-1, .inr ⟨any_false HA.out, rfl⟩, by omega, rfl, hb⟩
set_option maxHeartbeats 1000000 in
theorem containsFuncS_any (p : Int → Bool) (I : World → Prop) (a : Option Addr) (cap g1 g2 g3 : Nat) (zs : List Int) (hI : ∀ w', I w' → Ints w' a zs) (hn : zs.length ≤ 1048576)
    (hf : ∀ (x : Int) (w' : World), x ∈ zs → I w' → Calls Try.prog 58 #[.int .i64 x, .pointer (some ⟨g1, 0, none⟩), .pointer (some ⟨g2, 0, none⟩), .pointer (some ⟨g3, 0, none⟩)] w' fun e w'' => e = .returned (.bool (p x)) ∧ I w'') (w : World) (hw : I w) :
    Calls Try.prog 57 #[.slice a zs.length cap, .func (.func 58) #[] #[.pointer (some ⟨g1, 0, none⟩), .pointer (some ⟨g2, 0, none⟩), .pointer (some ⟨g3, 0, none⟩)]] w fun e w' => e = .returned (.bool (zs.any p)) ∧ I w' := by
  have HF := hide hf
  have HI := hide hI
  clear hf hI
  by_cases hm : zs.any p = true
  · have HM := hide hm
    clear hm
    go_enter Try.func57, Try.ntmps57
    go_wp2_with fail
    refine (indexFuncS_any p I _ _ _ _ _ _ HI.out hn HF.out _ hw).mono ?_
    rintro e w' ⟨r, hr, hr2, rfl, hb⟩
    have h0 : 0 ≤ r := by
      rcases hr with ⟨_, h⟩ | ⟨h, _⟩
      · exact h
      · rw [HM.out] at h; cases h
    clear hr
    go_wp2
    go_ret
    exact ⟨ret_bool HM.out.symm, hb⟩
  · have hm : zs.any p = false := by simpa using hm
    have HM := hide hm
    clear hm
    go_enter Try.func57, Try.ntmps57
    go_wp2_with fail
    refine (indexFuncS_any p I _ _ _ _ _ _ HI.out hn HF.out _ hw).mono ?_
    rintro e w' ⟨r, hr, hr2, rfl, hb⟩
    have h0 : r < 0 := by
      rcases hr with ⟨h, _⟩ | ⟨_, h⟩
      · rw [HM.out] at h; cases h
      · omega
    clear hr
    go_wp2
    go_ret
    exact ⟨ret_bool (by rw [HM.out]; simp; omega), hb⟩

/-- what staysIn promises for k more votes -/
def Stays (n : Int) (a : Option Addr) (zs : List Int) (cap : Nat) (v : Int) (b : Option Addr) (ws : List Int) (capb k : Nat) : Prop :=
  ∀ (vs : List Int) (vv : Value) (base : Nat) (w : World), Ints w a zs → Ints w b ws → Low base a → Low base b → Owns w base vv vs → base ≤ w.heap.size → vs.length + k = v.toNat → (∀ x ∈ vs, 0 ≤ x ∧ x ≤ 255) →
    Calls Try.prog 27 #[.agg #[.int .i64 n, .slice a zs.length cap], .agg #[.int .i64 v, .slice b ws.length capb], vv] w (StPost base vv vs (safeK zs ws k vs) w)

set_option maxHeartbeats 4000000 in
set_option maxRecDepth 100000 in
theorem staysClosure_any (n v : Int) (a b : Option Addr) (cap capb k base : Nat) (zs ws vs : List Int) (vv : Value) (x : Int) (w0 w : World) (IH : Stays n a zs cap v b ws capb k) (hs : StI w0 base n a zs cap v b ws capb vv vs w)
    (ha : Low base a) (hb : Low base b) (hbw : base ≤ w0.heap.size) (hv : ∀ k, vv.ownBlock = some k → k < w0.heap.size) (hk : vs.length + (k + 1) = v.toNat) (h3 : v ≤ 3) (hr : ∀ x ∈ vs, 0 ≤ x ∧ x ≤ 255) (hx : 0 ≤ x ∧ x ≤ 255) :
    Calls Try.prog 58 #[.int .i64 x, .pointer (some ⟨w0.heap.size, 0, none⟩), .pointer (some ⟨w0.heap.size + 1, 0, none⟩), .pointer (some ⟨w0.heap.size + 2, 0, none⟩)] w fun e w' => e = .returned (.bool (!safeK zs ws k (vs ++ [x]))) ∧ StI w0 base n a zs cap v b ws capb vv vs w' := by
  obtain ⟨i0, hi0, hz0, hz1, hz2⟩ := info_parts info_int
  have hl2 : vs.length ≤ 2 := by omega
  have HIH := hide IH
  have HA := hide ha
  have HB := hide hb
  have HV := hide hv
  have HR := hide (mem_pushed (P := fun x => 0 ≤ x ∧ x ≤ 255) hr hx)
  have hlen : (vs ++ [x]).length = vs.length + 1 := by simp
  have HL := hide hlen
  have HK := hide (show (vs ++ [x]).length + k = v.toNat by omega)
  obtain ⟨c0, c1, d0, d1, e0⟩ := hs.cells
  have hown := hs.2.2.2.2.1
  have hws := hs.2.2.2.2.2
  have hown' : w.ownsRow base 3 1 vv vs.length (vs.map (Value.int .i64)) := hown
  have SD := hide (hs.below ha hb hbw hv (bdrew' (Below.refl w.heap.size w)))
  clear IH ha hb hv hr hs hlen hk
  have key : ∀ (l : Option Addr) (vc : Nat), vv = .slice l vs.length vc → (l = none → vs.length = 0 ∧ vc = 0) → vc < vs.length + 1 → Calls Try.prog 58 #[.int .i64 x, .pointer (some ⟨w0.heap.size, 0, none⟩), .pointer (some ⟨w0.heap.size + 1, 0, none⟩), .pointer (some ⟨w0.heap.size + 2, 0, none⟩)] w fun e w' => e = .returned (.bool (!safeK zs ws k (vs ++ [x]))) ∧ StI w0 base n a zs cap v b ws capb vv vs w' := by
    rintro l vc rfl hnone hfull
    have HOC : Hid (∀ b, l = some b → ∀ j u, (vs.map (Value.int .i64))[j]? = some u → (w.drew.alloc (.cells #[.int .i64 x] 3)).cell? (b.add j) = some u) := by
      intro b e j u hu
      subst e
      have hro := (hown'.drew).alloc (.cells #[.int .i64 x] 3)
      rcases ownsRow_forms hro with ⟨e, _⟩ | ⟨g, cc, e⟩
      · cases e
      · simp only [Value.slice.injEq, Option.some.injEq] at e
        obtain ⟨rfl, _, _⟩ := e
        exact own_cells hro _ rfl j u hu
    have HGR : Hid (∀ (w5 : World) (gg cc : Nat), (w.drew.alloc (.cells #[.int .i64 x] 3)).grownBy w5 none → w5.ownsRow (w.drew.alloc (.cells #[.int .i64 x] 3)).heap.size 3 1 (.slice (some ⟨gg, 0, none⟩) (vs.length + 1) cc) (vs.length + 1) (vs.map (Value.int .i64) ++ [.int .i64 x]) → w.heap.size ≤ gg → Owns w5 base (.slice (some ⟨gg, 0, none⟩) (vs.length + 1) cc) (vs ++ [x]) ∧ StI w0 base n a zs cap v b ws capb (.slice l vs.length vc) vs w5 ∧ (∀ k, (Value.slice (some ⟨gg, 0, none⟩) (vs.length + 1) cc).ownBlock = some k → w0.heap.size + 3 ≤ k ∧ (Value.slice l vs.length vc).ownBlock ≠ some k)) := fun w5 gg cc hg ho hgg => by
      have o5 := Owns.push ho
      have S1 := SD.out.below HA.out HB.out hbw HV.out (bel1 w.drew (.cells #[.int .i64 x] 3))
      refine ⟨o5.le (by simp; omega), S1.below HA.out HB.out hbw HV.out (none_below hg), fun k hk => ?_⟩
      have e : gg = k := by simpa [Value.ownBlock] using hk
      subst e
      exact ⟨by omega, fun e => by have := HV.out _ e; omega⟩
    go_enter Try.func58, Try.ntmps58
    go_wp2_with fail
    go_region_held3 (fun w' => w'.cell? ⟨w0.heap.size, 0, none⟩ = some (.int .i64 n) ∧ w'.cell? ⟨w0.heap.size, 1, none⟩ = some (.slice a zs.length cap) ∧ w'.cell? ⟨w0.heap.size + 1, 0, none⟩ = some (.int .i64 v) ∧ w'.cell? ⟨w0.heap.size + 1, 1, none⟩ = some (.slice b ws.length capb) ∧ w'.cell? ⟨w0.heap.size + 2, 0, none⟩ = some (.slice l vs.length vc))
      (first | go_keep | exact HS6.out | exact HS5.out)
      (first
        | (refine step_append_grows (by rfl) _ _ 23 (by rfl) 3 i0 (.int .i64 0) 1 8 Try.underlying23 hi0 hz0 hz1 hz2 rfl (by decide) l vs.length vc (vs.map (Value.int .i64)) (by rfl) hnone (by simp) HOC.out ⟨w.heap.size, 0, none⟩ 1 1 [.int .i64 x] (by rfl) (by rfl) (World.news_of_block (cs := #[.int .i64 x]) (t := 3) (fr := (0, 0)) (heap_alloc_new w.drew _)) (by intro u hu; simp at hu; subst hu; rfl) hfull (by unfold maxLen; omega) (by omega) ?_; intro v5 w5 hown5 hgrow; obtain ⟨gg, cc, rfl, hgb, hgl⟩ := World.ownsRow.form hown5 (by omega); have hgb' : w.heap.size ≤ gg := (by simp at hgb; omega); have O5 := hide (HGR.out w5 gg cc hgrow hown5 hgb'); have HS5 := hide O5.out.2.1.cells; clear hown5 hgrow hgb hgl)
        | (go_at_call 27; refine (HIH.out (vs ++ [x]) _ base _ O5.out.2.1.2.1 O5.out.2.1.2.2.1 HA.out HB.out O5.out.1 (by have := O5.out.2.1.2.2.2.2.2; omega) HK.out HR.out).mono ?_; rintro e w6 ⟨rfl, g6, o6⟩; have S6 := hide (O5.out.2.1.move HA.out HB.out hbw HV.out g6 (fun k hk => .inr (O5.out.2.2 k hk).1) (own_kept O5.out.2.1.2.2.2.2.1 g6 (fun k hk => (O5.out.2.2 k hk).2))); have HS6 := hide S6.out.cells; clear g6 o6))
    all_goals
      go_wp2
      go_ret
      exact ⟨rfl, S6.out⟩
  rcases ownsRow_forms hown' with ⟨e, h0⟩ | ⟨g, vc, e⟩
  · exact key none 0 (by rw [e, h0]) (fun _ => ⟨h0, rfl⟩) (by omega)
  · by_cases hroom : vs.length + 1 ≤ vc
    · clear key
      subst e
      have HSP : Hid (∀ w5 : World, (w.drew.alloc (.cells #[.int .i64 x] 3)).grownBy w5 (some g) → w5.ownsRow base 3 1 (.slice (some ⟨g, 0, none⟩) (vs.length + 1) vc) (vs.length + 1) (vs.map (Value.int .i64) ++ [.int .i64 x]) → Owns w5 base (.slice (some ⟨g, 0, none⟩) (vs.length + 1) vc) (vs ++ [x]) ∧ StI w0 base n a zs cap v b ws capb (.slice (some ⟨g, 0, none⟩) vs.length vc) vs w5) := fun w5 hg ho => by
        have o5 := Owns.push ho
        have S1 := SD.out.below HA.out HB.out hbw HV.out (bel1 w.drew (.cells #[.int .i64 x] 3))
        exact ⟨o5, S1.move HA.out HB.out hbw HV.out hg (fun k hk => .inl (by simpa [Value.ownBlock] using hk)) (owns_prefix o5)⟩
      go_enter Try.func58, Try.ntmps58
      go_wp2_with fail
      go_region_held3 (fun w' => w'.cell? ⟨w0.heap.size, 0, none⟩ = some (.int .i64 n) ∧ w'.cell? ⟨w0.heap.size, 1, none⟩ = some (.slice a zs.length cap) ∧ w'.cell? ⟨w0.heap.size + 1, 0, none⟩ = some (.int .i64 v) ∧ w'.cell? ⟨w0.heap.size + 1, 1, none⟩ = some (.slice b ws.length capb) ∧ w'.cell? ⟨w0.heap.size + 2, 0, none⟩ = some (.slice (some ⟨g, 0, none⟩) vs.length vc))
        (first | go_keep | exact HS6.out | exact HS5.out)
        (first
          | (refine step_append_spare (by rfl) _ _ 23 (by rfl) base 3 i0 1 Try.underlying23 hi0 hz1 g vs.length vc (vs.map (Value.int .i64)) (by rfl) ((hown'.drew).alloc _) ⟨w.heap.size, 0, none⟩ 1 1 [.int .i64 x] (by rfl) (by rfl) (World.news_of_block (cs := #[.int .i64 x]) (t := 3) (fr := (0, 0)) (heap_alloc_new w.drew _)) (by intro u hu; simp at hu; subst hu; rfl) hroom ?_; intro w5 hown5 hgrow; have O5 := hide (HSP.out w5 hgrow hown5); have HS5 := hide O5.out.2.cells; clear hown5 hgrow)
          | (go_at_call 27; refine (HIH.out (vs ++ [x]) _ base _ O5.out.2.2.1 O5.out.2.2.2.1 HA.out HB.out O5.out.1 (by have := O5.out.2.2.2.2.2.2; omega) HK.out HR.out).mono ?_; rintro e w6 ⟨rfl, g6, o6⟩; have S6 := hide (O5.out.2.move HA.out HB.out hbw HV.out g6 (fun k hk => .inl hk) (owns_prefix o6)); have HS6 := hide S6.out.cells; clear g6 o6))
      all_goals
        go_wp2
        go_ret
        exact ⟨rfl, S6.out⟩
    · exact key _ vc e (fun h => by cases h) (by omega)
set_option maxHeartbeats 4000000 in
set_option maxRecDepth 100000 in
theorem staysLeaf_any (n v : Int) (a b : Option Addr) (cap capb : Nat) (zs ws : List Int) (hv : 1 ≤ v ∧ v ≤ 3) (hl : ws.length ≤ 4) (hw : ∀ x ∈ ws, 0 ≤ x ∧ x ≤ 255) (hzn : zs.length ≤ 1048576) : Stays n a zs cap v b ws capb 0 := by
  intro vs vv base w hi hj ha hb ho hbase hk hr
  have S0 := StI.new (cap := cap) (capb := capb) (n := n) (v := v) hi hj ho
  have hvv : ∀ k, vv.ownBlock = some k → k < w.heap.size := own_lt ho
  have HVV := hide hvv
  have HA := hide ha
  have HB := hide hb
  have HW := hide hw
  have HR := hide hr
  have hE : ((vs.length : Int) == v) = true := by rw [beq_iff_eq]; omega
  have hv3 : vs.length ≤ 3 := by omega
  obtain ⟨l, vc, rfl, _, _⟩ := ho.form
  obtain ⟨c0, c1, d0, d1, e0⟩ := S0.cells
  have SD := hide (S0.below ha hb hbase hvv (bdrew' (Below.refl _ _)))
  have HD := hide SD.out.cells
  have iD := SD.out.2.2.1
  have oD := SD.out.2.2.2.2.1.ints
  clear hi hj ho hk S0 hvv ha hb hw hr
  go_enter Try.func27, Try.ntmps27
  go_wp2_with fail
  go_region_held3 (fun w' => w'.cell? ⟨w.heap.size, 0, none⟩ = some (.int .i64 n) ∧ w'.cell? ⟨w.heap.size, 1, none⟩ = some (.slice a zs.length cap) ∧ w'.cell? ⟨w.heap.size + 1, 0, none⟩ = some (.int .i64 v) ∧ w'.cell? ⟨w.heap.size + 1, 1, none⟩ = some (.slice b ws.length capb) ∧ w'.cell? ⟨w.heap.size + 2, 0, none⟩ = some (.slice l vs.length vc))
    (first | go_keep | exact HS6.out | exact HS5.out | exact HD.out)
    (first
      | (go_at_call 56; refine (applied_any v b l capb vc ws vs _ iD oD hv3 HR.out hl HW.out).mono ?_; rintro e w5 ⟨rfl, b5⟩; have S5 := hide (SD.out.below HA.out HB.out hbase HVV.out b5); have HS5 := hide S5.out.cells; have i5 := S5.out.2.1; clear b5)
      | (go_at_call 55; refine (contains_any _ a cap zs _ i5 hzn).mono ?_; rintro e w6 ⟨rfl, b6⟩; have S6 := hide (S5.out.below HA.out HB.out hbase HVV.out b6); have HS6 := hide S6.out.cells; clear b6))
  all_goals
    go_wp2
    go_ret
    exact ⟨rfl, S6.out.2.2.2.1, S6.out.2.2.2.2.1⟩
set_option maxHeartbeats 4000000 in
set_option maxRecDepth 100000 in
theorem staysIn_any (n v : Int) (a b : Option Addr) (cap capb : Nat) (zs ws : List Int) (hv : 1 ≤ v ∧ v ≤ 3) (hl : ws.length ≤ 4) (hz : ∀ x ∈ zs, 0 ≤ x ∧ x ≤ 255) (hw : ∀ x ∈ ws, 0 ≤ x ∧ x ≤ 255) (hzn : zs.length ≤ 1048576) : ∀ k, Stays n a zs cap v b ws capb k
  | 0 => staysLeaf_any n v a b cap capb zs ws hv hl hw hzn
  | k + 1 => by
    have HIH := hide (staysIn_any n v a b cap capb zs ws hv hl hz hw hzn k)
    intro vs vv base w hi hj ha hb ho hbase hk hr
    have S0 := hide (StI.new (cap := cap) (capb := capb) (n := n) (v := v) hi hj ho)
    have hvv : ∀ k, vv.ownBlock = some k → k < w.heap.size := own_lt ho
    have HVV := hide hvv
    have HA := hide ha
    have HB := hide hb
    have HZ := hide hz
    have HR := hide hr
    have hE : ((vs.length : Int) == v) = false := by rw [beq_eq_false_iff_ne]; omega
    have HK := hide hk
    have hv3 := hv.2
    have HN := hide (any_not (zs := zs) (fun x => safeK zs ws k (vs ++ [x])))
    obtain ⟨l, vc, rfl, _, _⟩ := ho.form
    obtain ⟨c0, c1, d0, d1, e0⟩ := S0.out.cells
    clear hi hj ho hk hvv ha hb hz hw hr
    go_enter Try.func27, Try.ntmps27
    go_wp2_with fail
    refine (containsFuncS_any (fun x => !safeK zs ws k (vs ++ [x])) (StI w base n a zs cap v b ws capb (.slice l vs.length vc) vs) a cap _ _ _ zs (fun w' h => h.2.1) hzn (fun x w' hx hI => staysClosure_any n v a b cap capb k base zs ws vs _ x w w' HIH.out hI HA.out HB.out hbase HVV.out HK.out hv3 HR.out (HZ.out x hx)) _ S0.out).mono ?_
    rintro e w2 ⟨rfl, S2⟩
    have HS2 := hide S2
    clear S2
    go_wp2
    go_ret
    exact ⟨ret_bool HN.out, HS2.out.2.2.2.1, HS2.out.2.2.2.2.1⟩
theorem Low.of {w : World} {a : Option Addr} {zs : List Int} (hi : Ints w a zs) (h : 0 < zs.length) : Low w.heap.size a := fun g o s e => by
  obtain ⟨b, off, rfl, hlt, _⟩ := hi h
  cases e
  exact hlt
set_option maxHeartbeats 2000000 in
theorem implIsSafe_any (n v : Int) (a b : Option Addr) (cap capb : Nat) (zs ws : List Int) (w : World) (hi : Ints w a zs) (hj : Ints w b ws) (hn : zs.length ≤ 1048576) (hm : ws.length ≤ 1048576) :
    Calls Try.prog 12 #[.agg #[.int .i64 n, .slice a zs.length cap], .agg #[.int .i64 v, .slice b ws.length capb]] w fun e w' => e = .returned (.bool (safeR n zs v ws)) ∧ Below w.heap.size w w' := by
  have S0 := SR.new w n v a b zs ws cap capb 25 34 hi hj
  clear hi hj
  by_cases hv : vrB n zs v ws = false
  · have HV := hide (safeR_no hv)
    go_enter Try.func12, Try.ntmps12
    go_wp2_with fail
    refine (implValidRule_any _ _ _ _ _ _ _ _ _ S0.2.2.1 S0.2.2.2.1 hn hm).mono ?_
    rintro e w1 ⟨rfl, hb⟩
    go_wp2
    go_ret
    exact ⟨ret_bool HV.out.symm, (S0.below hb).2.2.2.2⟩
  · have hv : vrB n zs v ws = true := by simpa using hv
    have HV := hide (safeR_yes hv)
    obtain ⟨hVa, hRo⟩ := vr_of hv
    have hv3 := hRo.1
    have hl4 : ws.length ≤ 4 := by have := hRo.2.1; have := hVa.1.2; omega
    have hw0 : 0 < ws.length := by have := hRo.2.1; have := hVa.1.1; omega
    have hz0 : 0 < zs.length := by have := hVa.2.1; omega
    have HWR := hide hRo.range
    have HZR : Hid (∀ x ∈ zs, 0 ≤ x ∧ x ≤ 255) := fun x hx => by have := valid_range hVa x hx; omega
    clear hVa hRo
    go_enter Try.func12, Try.ntmps12
    go_wp2_with fail
    refine (implValidRule_any _ _ _ _ _ _ _ _ _ S0.2.2.1 S0.2.2.2.1 hn hm).mono ?_
    rintro e w1 ⟨rfl, hb⟩
    have S1 := S0.below hb
    have HS := hide S1
    clear S0 hb
    obtain ⟨⟨_, c0, c1⟩, ⟨_, d0, d1⟩, _⟩ := S1
    go_wp2_with fail
    refine (staysIn_any n v a b cap capb zs ws hv3 hl4 HZR.out HWR.out hn v.toNat [] (.slice none 0 0) w1.heap.size w1 HS.out.2.2.1 HS.out.2.2.2.1 (Low.of HS.out.2.2.1 hz0) (Low.of HS.out.2.2.2.1 hw0) (World.ownsRow_nil _ _ _ _) (Nat.le_refl _) (by simp) (nil_range _)).mono ?_
    rintro e w2 ⟨rfl, g2, _⟩
    go_wp2
    go_ret
    exact ⟨ret_bool HV.out.symm, (HS.out.below (none_below g2)).2.2.2.2⟩
end Go.Proofs.Ytbmodiobgkmngaa
