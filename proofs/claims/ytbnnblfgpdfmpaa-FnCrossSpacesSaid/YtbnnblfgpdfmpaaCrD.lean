/- dropGreater: of a map from parts, those that have all answers of a part, and more, are deleted. -/
import Derived.Test.YtbnnblfgpdfmpaaMapI
import Derived.Test.YtbnnblfgpdfmpaaMapV
import Derived.Test.YtbnnblfgpdfmpaaCrM
import Derived.Test.YtbnnblfgpdfmpaaOpen
import Derived.Maps.RangeWalk
import Derived.Test.YtbnnblfgpdfmpaaMark
namespace Go.Proofs.Ytbnnblfgpdfmpaa
open Go.RowKit Go.Joins Go.ChangeMaps Go.MapKept Go.WideShapes
open Go.Maps (Keyed)

/-- whether q has all answers of p, and more -/
def gtP (p q : Nat × Nat) : Bool := subP p q && q != p
/-- every key of a map is a part below 16 -/
def KeysIn (D : DataW Unit) : Prop := ∀ kl, Maps.has D kl = true → ∃ q : Nat × Nat, q.1 < 16 ∧ q.2 < 16 ∧ kl = litP (q.1 : Int) (q.2 : Int)
theorem KeysIn.empty : KeysIn (.map []) := fun kl h => by simp [Maps.has] at h
theorem KeysIn.put {D : DataW Unit} (h : KeysIn D) {q : Nat × Nat} (hq1 : q.1 < 16) (hq2 : q.2 < 16) (d : DataW Unit) : KeysIn (D.put (litP (q.1 : Int) (q.2 : Int)) d) := fun kl hk => by
  by_cases e : kl = litP (q.1 : Int) (q.2 : Int)
  · exact ⟨q, hq1, hq2, e⟩
  · rw [Maps.has_put_other e] at hk
    exact h kl hk
theorem KeysIn.del {D : DataW Unit} (h : KeysIn D) (l : Lit) : KeysIn (D.del l) := fun kl hk => by
  by_cases e : kl = l
  · rw [e, Maps.has_del_same] at hk
    cases hk
  · rw [Maps.has_del_other e] at hk
    exact h kl hk
/-- the map while its keys are gone through: f but for those that have had their turn and are greater -/
def DG (f : Nat × Nat → Bool) (p : Nat × Nat) (left : Lit → Bool) (D : DataW Unit) : Prop :=
  MapIs D (fun q => f q && !(gtP p q && !left (litP (q.1 : Int) (q.2 : Int)))) ∧ KeysIn D
theorem MapIs.congr {D : DataW Unit} {f g : Nat × Nat → Bool} (h : MapIs D f) (e : ∀ q : Nat × Nat, q.1 < 16 → q.2 < 16 → f q = g q) : MapIs D g :=
  ⟨h.1, fun q h1 h2 => by rw [← e q h1 h2]; exact h.2 q h1 h2⟩
theorem DG.start {D : DataW Unit} {f : Nat × Nat → Bool} {p : Nat × Nat} (h : MapIs D f) (hk : KeysIn D) : DG f p (Maps.has D) D := by
  refine ⟨h.congr (fun q h1 h2 => ?_), hk⟩
  cases hf : f q
  · rfl
  · cases hh : Maps.has D (litP (q.1 : Int) (q.2 : Int))
    · have e := h.2 q h1 h2
      rw [Maps.atKey_of_not_has hh, hf] at e
      cases e
    · simp
theorem litP_same {q q' : Nat × Nat} (h1 : q.1 < 16) (h2 : q.2 < 16) (h1' : q'.1 < 16) (h2' : q'.2 < 16) : (litP (q.1 : Int) (q.2 : Int)).sameKey (litP (q'.1 : Int) (q'.2 : Int)) = decide (q = q') := by
  by_cases e : q = q'
  · rw [e, WideAt.sameKey_self (litP_key _ _)]; simp
  · rw [Maps.sameKey_ne (litP_ne h1 h2 h1' h2' e), decide_eq_false e]
theorem DG.stay {D : DataW Unit} {f : Nat × Nat → Bool} {p q : Nat × Nat} {left : Lit → Bool} (h : DG f p left D) (h1 : q.1 < 16) (h2 : q.2 < 16) (hg : gtP p q = false) : DG f p (fun z => left z && !z.sameKey (litP (q.1 : Int) (q.2 : Int))) D := by
  refine ⟨h.1.congr (fun x hx1 hx2 => ?_), h.2⟩
  show _ = (f x && !(gtP p x && !(left (litP (x.1 : Int) (x.2 : Int)) && !(litP (x.1 : Int) (x.2 : Int)).sameKey (litP (q.1 : Int) (q.2 : Int)))))
  rw [litP_same hx1 hx2 h1 h2]
  by_cases e : x = q
  · rw [e, hg]; simp
  · rw [decide_eq_false e]; simp
theorem DG.struck {D : DataW Unit} {f : Nat × Nat → Bool} {p q : Nat × Nat} {left : Lit → Bool} (h : DG f p left D) (h1 : q.1 < 16) (h2 : q.2 < 16) (hg : gtP p q = true) : DG f p (fun z => left z && !z.sameKey (litP (q.1 : Int) (q.2 : Int))) (D.del (litP (q.1 : Int) (q.2 : Int))) := by
  refine ⟨(h.1.del h1 h2).congr (fun x hx1 hx2 => ?_), h.2.del _⟩
  show _ = (f x && !(gtP p x && !(left (litP (x.1 : Int) (x.2 : Int)) && !(litP (x.1 : Int) (x.2 : Int)).sameKey (litP (q.1 : Int) (q.2 : Int)))))
  rw [litP_same hx1 hx2 h1 h2]
  by_cases e : x = q
  · rw [if_pos e, e, hg]; simp
  · rw [if_neg e, decide_eq_false e]; simp
theorem DG.done {D : DataW Unit} {f : Nat × Nat → Bool} {p : Nat × Nat} {left : Lit → Bool} (h : DG f p left D) (hl : ∀ kl, left kl = false) : MapIs D (fun q => f q && !gtP p q) ∧ KeysIn D :=
  ⟨h.1.congr (fun q _ _ => by rw [hl]; simp), h.2⟩
theorem part_keyV (key : Value) (kl : Lit) (h : keyOf Try.prog 60 key = some kl) : ∃ x : Int × Int, key = .agg #[.int .i64 x.1, .int .i64 x.2] := by
  obtain ⟨c, b, rfl, _⟩ := part_key_inv h
  exact ⟨(c, b), rfl⟩
theorem bool_elemV (v : Value) (y : DataW Unit × List MemPlace) (h : plainElem Try.prog 4 v = some y) : ∃ c : Bool, v = .bool c := by
  obtain ⟨x, rfl, _⟩ := plainElem_bool_inv Try.underlying4 h
  exact ⟨x, rfl⟩
/-- the key that comes is a part below 16 -/
theorem key_nat {D : DataW Unit} (hk : KeysIn D) {x : Int × Int} {kl : Lit} {d : DataW Unit} (h : keyOf Try.prog 60 (.agg #[.int .i64 x.1, .int .i64 x.2]) = some kl) (hat : ∀ zd, D.atKey kl zd = d) :
    ∃ q : Nat × Nat, x = ((q.1 : Int), (q.2 : Int)) ∧ q.1 < 16 ∧ q.2 < 16 ∧ kl = litP (q.1 : Int) (q.2 : Int) := by
  obtain ⟨q, h1, h2, rfl⟩ := hk kl (Maps.has_true_of_atKey hat)
  obtain ⟨c, b, e, wc, wb, ek⟩ := part_key_inv h
  obtain ⟨e1, e2⟩ := litP_inj (wf_16 _ h1) (wf_16 _ h2) wc wb ek
  simp only [Value.agg.injEq, Array.mk.injEq, List.cons.injEq, Value.int.injEq, and_true, true_and] at e
  exact ⟨q, Prod.ext (by rw [e.1, e1]) (by rw [e.2, e2]), h1, h2, rfl⟩
theorem hasPart_was (x c b : Int) (w : World) (r : Bool) (hx : 0 ≤ x ∧ x ≤ 15) (hc : 0 ≤ c ∧ c ≤ 15) (hb : 0 ≤ b) (hr : hpB x c b = r) :
    Calls Try.prog 72 #[.int .i64 x, .agg #[.int .i64 c, .int .i64 b]] w fun e w' => e = .returned (.bool r) ∧ Below w.heap.size w w' := by
  subst hr
  exact hasPart_any x c b w hx hc hb
/-- the step of a range over a map from parts below 16 -/
theorem next_part {w : World} {ops : Array Oper} {rest : List Oper} {o : Oper} {a : Act} {Q : Exit → Act → World → Prop} (hg : o.guard = none) (it : Operand) (hop : o.op = Op.next it false) (b r n : Nat) (D : DataW Unit) (left : Lit → Bool) (cnt : Nat)
    (hit : a.eval it = .pointer (some ⟨r, 0, none⟩)) (h : w.ranges Try.prog 60 (plainElem Try.prog 4) b r n D left cnt) (hk : KeysIn D)
    (hDone : (∀ kl, left kl = false) → wpList Try.prog ops Q rest (a.put o.dst (.tuple #[.bool false])) w)
    (hMore : ∀ (q1 q2 : Nat) (v : Value) (w' : World) (cnt' : Nat), q1 < 16 → q2 < 16 → w'.ranges Try.prog 60 (plainElem Try.prog 4) b r n D (fun z => left z && !z.sameKey (litP (q1 : Int) (q2 : Int))) cnt' → cnt' < cnt →
      w.grownBy w' (some r) → (Instr.entry (.pointer (some ⟨r, 0, none⟩))).run Try.prog w' = .ok (.tuple #[.agg #[.int .i64 q1, .int .i64 q2], v]) w' → wpList Try.prog ops Q rest (a.put o.dst (.tuple #[.bool true, .agg #[.int .i64 q1, .int .i64 q2], v])) w') :
    wpList Try.prog ops Q (o :: rest) a w := by
  refine wpList_next_ranges w hg it hop 60 part_keyed (plainElem Try.prog 4) (fun x : Int × Int => Value.agg #[.int .i64 x.1, .int .i64 x.2]) Value.bool part_keyV bool_elemV b r n D left cnt hit h (fun _ hl => hDone hl) ?_
  intro x c kl y w' cnt' hkey hlk hv hat hrg hlt hgr hsz hen
  obtain ⟨q, rfl, h1, h2, rfl⟩ := key_nat hk hkey hat
  exact hMore q.1 q.2 (.bool c) w' cnt' h1 h2 hrg hlt hgr hen
/-- What dropGreater leaves. -/
def DropPost (b n : Nat) (f : Nat × Nat → Bool) (p : Nat × Nat) (w : World) (e : Ending) (w' : World) : Prop :=
  e = .returned (.tuple #[]) ∧ (∃ D' : DataW Unit, w'.ownsMap Try.prog 60 (plainElem Try.prog 4) b n D' ∧ MapIs D' (fun q => f q && !gtP p q) ∧ KeysIn D') ∧ w.grownBy w' (some b)
theorem gcell {w w' : World} {row : Option Nat} (h : w.grownBy w' row) {a : Addr} (hb : a.block < w.heap.size) (hne : some a.block ≠ row) : w'.cell? a = w.cell? a := by
  have e := h.block a.block hb hne
  unfold World.cell?
  rw [e]
theorem PBox.grown {w w' : World} {row : Option Nat} {g : Nat} {c b : Int} (h : PBox w g c b) (hg : w.grownBy w' row) (hne : some g ≠ row) : PBox w' g c b :=
  ⟨Nat.lt_of_lt_of_le h.1 hg.size, (gcell hg (a := ⟨g, 0, none⟩) h.1 hne).trans h.2.1, (gcell hg (a := ⟨g, 1, none⟩) h.1 hne).trans h.2.2⟩
theorem grown_of {w w' : World} (hb : Below w.heap.size w w') : w.grownBy w' none := ⟨hb.os, hb.tape, hb.output, hb.size, fun k hk _ => hb.block k hk⟩

set_option maxHeartbeats 2000000 in
set_option maxRecDepth 100000 in
theorem dropGreater_any (b n : Nat) (D : DataW Unit) (f : Nat × Nat → Bool) (pc pb : Nat) (w : World) (hp1 : pc < 16) (hp2 : pb < 16) (hown : w.ownsMap Try.prog 60 (plainElem Try.prog 4) b n D) (hm : MapIs D f) (hk : KeysIn D) :
    Calls Try.prog 55 #[.map (some b), .agg #[.int .i64 pc, .int .i64 pb]] w (DropPost b n f (pc, pb) w) := by
  have hown1 := hown.alloc (.cells #[.int .i64 pc, .int .i64 pb] 60)
  have px := PBox.new w (pc : Int) (pb : Int) 60
  have HB1 := hide (bel1 w (.cells #[.int .i64 pc, .int .i64 pb] 60))
  have hbl := hown.lt
  clear hown
  go_enter Try.func55, Try.ntmps55
  go_wp2_with (first
    | (at_range; refine wpList_range_own _ rfl _ 58 rfl 60 4 part_keyed Try.underlying58 _ b n _ rfl hown1 ?_; intro w0 hrg0 hg0 hs0)
    | go_in)
  go_frame
  simp only [World.size_alloc] at hrg0 ⊢
  have P0 := px.grown hg0 (by simp)
  have HG0 := hide hg0
  have HS0 := hide hs0
  clear px hg0 hs0 hown1
  go_loopw [4] (fun _ wr => ∃ (left : Lit → Bool) (cnt : Nat) (D' : DataW Unit), wr.ranges Try.prog 60 (plainElem Try.prog 4) b (w.heap.size + 1) n D' left cnt ∧ DG f (pc, pb) left D' ∧ w.grownBy wr (some b) ∧ PBox wr w.heap.size (pc : Int) (pb : Int))
    (fun _ wr => wr.rangeLeft b (w.heap.size + 1))
  case atStart => exact ⟨_, _, _, hrg0, DG.start hm hk, gtrans (grown_of HB1.out) HG0.out |>.but _, P0⟩
  case round =>
    obtain ⟨left, cnt, D', hrg, hd, hg, hp⟩ := hrel
    clear P0 hrg0
    go_wp2_with (first
      | (at_next; refine next_part rfl _ rfl b (w.heap.size + 1) n _ _ _ rfl hrg hd.2 ?_ ?_)
      | go_in)
    · intro hl0
      go_wp2
      go_end0
      exact ⟨rfl, ⟨D', hrg.owns, hd.done hl0⟩, hg⟩
    · intro q1 q2 v w1 cnt1 hq1 hq2 hrg1 hlt hg1 hen
      have hg2 := hg.andThen hg1 (fun j hj => by cases hj; exact Or.inl (Nat.le_succ _))
      have P1 := hp.grown hg1 (by simp)
      have qx := PBox.new w1 (q1 : Int) (q2 : Int) 60
      have P2 := P1.below (bel1 w1 (.cells #[.int .i64 q1, .int .i64 q2] 60))
      have hg3 := gtrans hg2 ((grown_of (bel1 w1 (.cells #[.int .i64 q1, .int .i64 q2] 60))).but (some b))
      have hr3 := hrg1.alloc (.cells #[.int .i64 q1, .int .i64 q2] 60)
      have HD := hide hd
      have HG3 := hide hg3
      have HR3 := hide hr3
      have HRG := hide hrg
      have HLT := hide hlt
      have HPB := hide P2
      obtain ⟨_, p0, p1⟩ := P2
      obtain ⟨_, u0, u1⟩ := qx
      have hwf1 := hide (wf_16 q1 hq1)
      have hwf2 := hide (wf_16 q2 hq2)
      clear hrg1 hg1 hrg hd hg hp hg2 hlt P1 hg3 hr3
      by_cases hq : q1 = pc ∧ q2 = pb
      · obtain ⟨rfl, rfl⟩ := hq
        have HQ : Hid (gtP (q1, q2) (q1, q2) = false) := by unfold Hid gtP; simp
        go_wp2
        go_roundw
        case rel => exact ⟨(fun z => left z && !z.sameKey (litP (q1 : Int) (q2 : Int))), cnt1, D', HR3.out, HD.out.stay (q := (q1, q2)) hq1 hq2 HQ.out, HG3.out, HPB.out⟩
        case measure => rw [HR3.out.left_eq, HRG.out.left_eq]; exact HLT.out
      · have hne : ((q1, q2) != (pc, pb)) = true := by
          rw [bne_iff_ne]
          intro e
          exact hq (by simpa using e)
        have hsub := andNot_zero (pc : Int) q1 (wf_16 pc hp1) hq1
        rw [Int.toNat_natCast] at hsub
        have hh := hp_nat (q2 : Int) pc pb
        rw [Int.toNat_natCast] at hh
        by_cases hs : pc &&& q1 = pc
        · have hA : (bits .andNot .i64 (pc : Int) (q1 : Int) == 0) = true := by rw [beq_iff_eq]; exact hsub.2 ⟨by omega, hs⟩
          cases hv : (q2 &&& pc == pb) with
          | false =>
            have HQ : Hid (gtP (pc, pb) (q1, q2) = false) := by unfold Hid gtP subP; simp only [hv]; simp
            rw [hv] at hh
            have HH := hide hh
            clear hv hh hs hsub hne
            have hpr : Hid ((0 ≤ (q2 : Int) ∧ (q2 : Int) ≤ 15) ∧ (0 ≤ (pc : Int) ∧ (pc : Int) ≤ 15) ∧ 0 ≤ (pb : Int)) := ⟨⟨by omega, by omega⟩, ⟨by omega, by omega⟩, by omega⟩
            by_cases e1 : q1 = pc
            · have e2 : ¬ ((q2 : Int) = (pb : Int)) := fun e => hq ⟨e1, by omega⟩
              subst e1
              clear hq
              go_wp2_with fail
              refine (hasPart_was _ _ _ _ false hpr.out.1 hpr.out.2.1 hpr.out.2.2 HH.out).mono ?_
              rintro e w4 ⟨rfl, b4⟩
              have HG4 := hide (gtrans HG3.out ((grown_of b4).but (some b)))
              have HR4 := hide (HR3.out.kept (grown_of b4) (by simp) (by simp))
              have HP4 := hide (HPB.out.below b4)
              go_wp2
              go_roundw
              case rel => exact ⟨(fun z => left z && !z.sameKey (litP (q1 : Int) (q2 : Int))), cnt1, D', HR4.out, HD.out.stay (q := (q1, q2)) hq1 hq2 HQ.out, HG4.out, HP4.out⟩
              case measure => rw [HR4.out.left_eq, HRG.out.left_eq]; exact HLT.out
            · have e2 : ¬ ((q1 : Int) = (pc : Int)) := fun e => e1 (by omega)
              clear hq e1
              go_wp2_with fail
              refine (hasPart_was _ _ _ _ false hpr.out.1 hpr.out.2.1 hpr.out.2.2 HH.out).mono ?_
              rintro e w4 ⟨rfl, b4⟩
              have HG4 := hide (gtrans HG3.out ((grown_of b4).but (some b)))
              have HR4 := hide (HR3.out.kept (grown_of b4) (by simp) (by simp))
              have HP4 := hide (HPB.out.below b4)
              go_wp2
              go_roundw
              case rel => exact ⟨(fun z => left z && !z.sameKey (litP (q1 : Int) (q2 : Int))), cnt1, D', HR4.out, HD.out.stay (q := (q1, q2)) hq1 hq2 HQ.out, HG4.out, HP4.out⟩
              case measure => rw [HR4.out.left_eq, HRG.out.left_eq]; exact HLT.out
          | true =>
            have HQ : Hid (gtP (pc, pb) (q1, q2) = true) := by unfold Hid gtP subP; simp only [hv, hne, hs]; simp
            rw [hv] at hh
            have HH := hide hh
            clear hv hh hs hsub hne
            have hpr : Hid ((0 ≤ (q2 : Int) ∧ (q2 : Int) ≤ 15) ∧ (0 ≤ (pc : Int) ∧ (pc : Int) ≤ 15) ∧ 0 ≤ (pb : Int)) := ⟨⟨by omega, by omega⟩, ⟨by omega, by omega⟩, by omega⟩
            have HU0 := hide u0
            have HU1 := hide u1
            by_cases e1 : q1 = pc
            · have e2 : ¬ ((q2 : Int) = (pb : Int)) := fun e => hq ⟨e1, by omega⟩
              subst e1
              clear hq
              go_wp2_with fail
              refine (hasPart_was _ _ _ _ true hpr.out.1 hpr.out.2.1 hpr.out.2.2 HH.out).mono ?_
              rintro e w4 ⟨rfl, b4⟩
              have HG4 := hide (gtrans HG3.out ((grown_of b4).but (some b)))
              have hr4 := HR3.out.kept (grown_of b4) (by simp) (by simp)
              have HP4 := hide (HPB.out.below b4)
              have v0 := (b4.cell (p := ⟨w1.heap.size, 0, none⟩) (by simp)).trans HU0.out
              have v1 := (b4.cell (p := ⟨w1.heap.size, 1, none⟩) (by simp)).trans HU1.out
              clear u0 u1 p0 p1 b4
              go_wp2_with (first
                | (at_delete; refine wpList_delete_ranges _ rfl _ _ 58 60 rfl 4 part_keyed Try.underlying58 _ b (w.heap.size + 1) n _ _ _ rfl hr4 _ _ rfl (part_key _ _ hwf1.out hwf2.out) ?_; intro w5 cnt5 hrg5 hle hturn; go_frame)
                | go_in)
              rw [Maps.strike_twice] at hrg5
              have HG5 := hide (HG4.out.andThen hturn.grown (fun j hj => by cases hj; exact Or.inr rfl))
              have HP5 := hide (HP4.out.grown hturn.grown (by simp; omega))
              go_roundw
              case rel => exact ⟨(fun z => left z && !z.sameKey (litP (q1 : Int) (q2 : Int))), cnt5, _, hrg5, HD.out.struck (q := (q1, q2)) hq1 hq2 HQ.out, HG5.out, HP5.out⟩
              case measure => rw [hrg5.left_eq, HRG.out.left_eq]; have := HLT.out; omega
            · have e2 : ¬ ((q1 : Int) = (pc : Int)) := fun e => e1 (by omega)
              clear hq e1
              go_wp2_with fail
              refine (hasPart_was _ _ _ _ true hpr.out.1 hpr.out.2.1 hpr.out.2.2 HH.out).mono ?_
              rintro e w4 ⟨rfl, b4⟩
              have HG4 := hide (gtrans HG3.out ((grown_of b4).but (some b)))
              have hr4 := HR3.out.kept (grown_of b4) (by simp) (by simp)
              have HP4 := hide (HPB.out.below b4)
              have v0 := (b4.cell (p := ⟨w1.heap.size, 0, none⟩) (by simp)).trans HU0.out
              have v1 := (b4.cell (p := ⟨w1.heap.size, 1, none⟩) (by simp)).trans HU1.out
              clear u0 u1 p0 p1 b4
              go_wp2_with (first
                | (at_delete; refine wpList_delete_ranges _ rfl _ _ 58 60 rfl 4 part_keyed Try.underlying58 _ b (w.heap.size + 1) n _ _ _ rfl hr4 _ _ rfl (part_key _ _ hwf1.out hwf2.out) ?_; intro w5 cnt5 hrg5 hle hturn; go_frame)
                | go_in)
              rw [Maps.strike_twice] at hrg5
              have HG5 := hide (HG4.out.andThen hturn.grown (fun j hj => by cases hj; exact Or.inr rfl))
              have HP5 := hide (HP4.out.grown hturn.grown (by simp; omega))
              go_roundw
              case rel => exact ⟨(fun z => left z && !z.sameKey (litP (q1 : Int) (q2 : Int))), cnt5, _, hrg5, HD.out.struck (q := (q1, q2)) hq1 hq2 HQ.out, HG5.out, HP5.out⟩
              case measure => rw [hrg5.left_eq, HRG.out.left_eq]; have := HLT.out; omega
        · have hA : (bits .andNot .i64 (pc : Int) (q1 : Int) == 0) = false := by
            rw [beq_eq_false_iff_ne]
            intro e
            exact hs (hsub.1 e).2
          have HQ : Hid (gtP (pc, pb) (q1, q2) = false) := by
            unfold Hid gtP subP
            rw [show (pc &&& q1 == pc) = false from by simpa using hs]
            rfl
          have e2 : ¬ ((q1 : Int) = (pc : Int)) := fun e => hs (by
            obtain rfl : q1 = pc := by omega
            exact Nat.and_self q1)
          clear hs hsub hne hq hh
          go_wp2
          go_roundw
          case rel => exact ⟨(fun z => left z && !z.sameKey (litP (q1 : Int) (q2 : Int))), cnt1, D', HR3.out, HD.out.stay (q := (q1, q2)) hq1 hq2 HQ.out, HG3.out, HPB.out⟩
          case measure => rw [HR3.out.left_eq, HRG.out.left_eq]; exact HLT.out
end Go.Proofs.Ytbnnblfgpdfmpaa
