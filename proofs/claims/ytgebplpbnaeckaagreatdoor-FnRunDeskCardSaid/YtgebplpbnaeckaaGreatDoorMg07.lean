/- Texts of this seat one behind the other: MapI, MapV, CrD, CrO. Conditions: none. -/
import Derived.Test.YtgebplpbnaeckaaGreatDoorMg06
import Derived.Test.YtgebplpbnaeckaaGreatDoorMg02
import Derived.Test.YtgebplpbnaeckaaGreatDoorMg04
import Derived.Test.YtgebplpbnaeckaaGreatDoorMg01
import Derived.Maps.Views
import Derived.Maps.RangeWalk

/- MapI: Parts as keys: told apart. -/
namespace Go.Proofs.YtgebplpbnaeckaaGreatDoor
open Go

theorem wf_16 (c : Nat) (h : c < 16) : (Lit.int .i64 (c : Int)).wf = true := by
  simp [Lit.wf, IntKind.min, IntKind.max, IntKind.bits, IntKind.signed]
  omega
theorem litP_inj {c b c' b' : Int} (hc : (Lit.int .i64 c).wf = true) (hb : (Lit.int .i64 b).wf = true) (hc' : (Lit.int .i64 c').wf = true) (hb' : (Lit.int .i64 b').wf = true) (h : litP c b = litP c' b') : c = c' ∧ b = b' := by
  have e := part_keyed.inj (part_key c b hc hb) (by rw [h]; exact part_key c' b' hc' hb')
  simp only [Value.agg.injEq, Array.mk.injEq, List.cons.injEq, Value.int.injEq, and_true, true_and] at e
  exact e
theorem litP_ne {p q : Nat × Nat} (hp1 : p.1 < 16) (hp2 : p.2 < 16) (hq1 : q.1 < 16) (hq2 : q.2 < 16) (h : p ≠ q) : litP (p.1 : Int) (p.2 : Int) ≠ litP (q.1 : Int) (q.2 : Int) := fun e => by
  obtain ⟨e1, e2⟩ := litP_inj (wf_16 _ hp1) (wf_16 _ hp2) (wf_16 _ hq1) (wf_16 _ hq2) e
  exact h (Prod.ext (by omega) (by omega))
/-- what a map from parts says, of parts below 16 -/
def MapIs {H : Type} (D : DataW H) (f : Nat × Nat → Bool) : Prop := Maps.IsMap D ∧ ∀ p : Nat × Nat, p.1 < 16 → p.2 < 16 → D.atKey (litP (p.1 : Int) (p.2 : Int)) (.lit (.bool false)) = .lit (.bool (f p))
theorem litP_key (c b : Int) : WideAt.IsKeyLit (litP c b) := by unfold litP; trivial
theorem MapIs.put {H : Type} {D : DataW H} {f : Nat × Nat → Bool} (h : MapIs D f) {q : Nat × Nat} (hq1 : q.1 < 16) (hq2 : q.2 < 16) (r : Bool) :
    MapIs (D.put (litP (q.1 : Int) (q.2 : Int)) (.lit (.bool r))) (fun p => if p = q then r else f p) := by
  refine ⟨h.1.put _ _, fun p hp1 hp2 => ?_⟩
  show _ = DataW.lit (Lit.bool (if p = q then r else f p))
  by_cases e : p = q
  · subst e
    rw [Maps.atKey_put_same h.1 (litP_key _ _), if_pos rfl]
  · rw [Maps.atKey_put_other (litP_ne hp1 hp2 hq1 hq2 e), if_neg e]
    exact h.2 p hp1 hp2
theorem MapIs.del {H : Type} {D : DataW H} {f : Nat × Nat → Bool} (h : MapIs D f) {q : Nat × Nat} (hq1 : q.1 < 16) (hq2 : q.2 < 16) :
    MapIs (D.del (litP (q.1 : Int) (q.2 : Int))) (fun p => if p = q then false else f p) := by
  refine ⟨h.1.del _, fun p hp1 hp2 => ?_⟩
  show _ = DataW.lit (Lit.bool (if p = q then false else f p))
  by_cases e : p = q
  · subst e
    rw [Maps.atKey_del_same, if_pos rfl]
  · rw [Maps.atKey_del_other (litP_ne hp1 hp2 hq1 hq2 e), if_neg e]
    exact h.2 p hp1 hp2
theorem MapIs.empty {H : Type} : MapIs (.map [] : DataW H) (fun _ => false) := ⟨Maps.isMap_empty, fun _ _ _ => rfl⟩
end Go.Proofs.YtgebplpbnaeckaaGreatDoor

/- MapV: A key of a map from parts is a part. -/
namespace Go.Proofs.YtgebplpbnaeckaaGreatDoor
open Go

set_option maxRecDepth 20000 in
theorem int_lits_inv {d : Nat} {x : Value} {l : List Lit} (h : Tryz.prog.keyLits (d + 1) 3 [x] = some l) : ∃ n : Int, x = .int .i64 n ∧ (Lit.int .i64 n).wf = true ∧ l = [.int .i64 n] := by
  unfold Program.keyLits at h
  rw [Tryz.underlying3] at h
  cases x with
  | int q n =>
    simp only at h
    split at h
    · rename_i hc
      obtain ⟨rfl, hw⟩ := hc
      cases h
      exact ⟨n, rfl, hw, rfl⟩
    · cases h
  | _ => simp at h
set_option maxRecDepth 20000 in
theorem part_key_inv {key : Value} {kl : Lit} (h : keyOf Tryz.prog 79 key = some kl) : ∃ c b : Int, key = .agg #[.int .i64 c, .int .i64 b] ∧ (Lit.int .i64 c).wf = true ∧ (Lit.int .i64 b).wf = true ∧ kl = litP c b := by
  unfold keyOf at h
  rw [Tryz.underlying79] at h
  simp only [part_keyType, Bool.true_and] at h
  by_cases hf : key.formed Tryz.prog 79 = true
  · rw [if_pos hf] at h
    have hs : ∃ x y, key = .agg #[x, y] := by
      cases key <;> simp [Value.formed, Tryz.underlying79, part_cells] at hf
      rename_i cs
      obtain ⟨l⟩ := cs
      match l, hf with
      | [x, y], _ => exact ⟨x, y, rfl⟩
    obtain ⟨x, y, rfl⟩ := hs
    have h0 : 0 < Tryz.prog.types.size := of_decide_eq_true (by kernel_rfl)
    obtain ⟨d, hd⟩ : ∃ d, Tryz.prog.types.size = d + 1 := ⟨Tryz.prog.types.size - 1, by omega⟩
    have e : (Value.agg #[x, y]).cells.toList = [x, y] := rfl
    rw [hd, e] at h
    unfold Program.keyLits at h
    rw [Tryz.underlying79] at h
    cases hx : Tryz.prog.keyLits (d + 1) 3 [x] with
    | none => simp [part_cells, int_cells, List.mapM_cons, hx] at h
    | some l1 =>
      cases hy : Tryz.prog.keyLits (d + 1) 3 [y] with
      | none => simp [part_cells, int_cells, List.mapM_cons, hx, hy] at h
      | some l2 =>
        simp [part_cells, int_cells, List.mapM_cons, hx, hy] at h
        obtain ⟨c, rfl, wc, rfl⟩ := int_lits_inv hx
        obtain ⟨b, rfl, wb, rfl⟩ := int_lits_inv hy
        exact ⟨c, b, rfl, wc, wb, h.symm⟩
  · rw [if_neg hf] at h
    cases h
end Go.Proofs.YtgebplpbnaeckaaGreatDoor

/- CrD: dropGreater: of a map from parts, those that have all answers of a part, and more, are deleted. -/
namespace Go.Proofs.YtgebplpbnaeckaaGreatDoor
open Go.RowKit Go.Joins Go.ChangeMaps Go.MapKept Go.WideShapes
open Go.Maps (Keyed)

/-- whether q has all answers of p, and more -/
def gtP (p q : Nat × Nat) : Bool := subP p q && q != p
/-- every key of a map is a part below 16 -/
def KeysIn (D : DataW Unit) : Prop := ∀ kl, Maps.has D kl = true → ∃ q : Nat × Nat, q.1 < 16 ∧ q.2 < 16 ∧ kl = litP (q.1 : Int) (q.2 : Int)
theorem KeysIn.empty : KeysIn (.map []) := fun kl h => by simp [Maps.has] at h
theorem KeysIn.put {D : DataW Unit} (h : KeysIn D) {q : Nat × Nat} (hq1 : q.1 < 16) (hq2 : q.2 < 16) (d : DataW Unit) : KeysIn (D.put (litP (q.1 : Int) (q.2 : Int)) d) := fun kl hk => by
  by_cases e : kl = litP (q.1 : Int) (q.2 : Int)
  · exact ⟨q, hq1, hq2, e⟩
  · rw [Maps.has_put_other e] at hk
    exact h kl hk
theorem KeysIn.del {D : DataW Unit} (h : KeysIn D) (l : Lit) : KeysIn (D.del l) := fun kl hk => by
  by_cases e : kl = l
  · rw [e, Maps.has_del_same] at hk
    cases hk
  · rw [Maps.has_del_other e] at hk
    exact h kl hk
/-- the map while its keys are gone through: f but for those that have had their turn and are greater -/
def DG (f : Nat × Nat → Bool) (p : Nat × Nat) (left : Lit → Bool) (D : DataW Unit) : Prop :=
  MapIs D (fun q => f q && !(gtP p q && !left (litP (q.1 : Int) (q.2 : Int)))) ∧ KeysIn D
theorem MapIs.congr {D : DataW Unit} {f g : Nat × Nat → Bool} (h : MapIs D f) (e : ∀ q : Nat × Nat, q.1 < 16 → q.2 < 16 → f q = g q) : MapIs D g :=
  ⟨h.1, fun q h1 h2 => by rw [← e q h1 h2]; exact h.2 q h1 h2⟩
theorem DG.start {D : DataW Unit} {f : Nat × Nat → Bool} {p : Nat × Nat} (h : MapIs D f) (hk : KeysIn D) : DG f p (Maps.has D) D := by
  refine ⟨h.congr (fun q h1 h2 => ?_), hk⟩
  cases hf : f q
  · rfl
  · cases hh : Maps.has D (litP (q.1 : Int) (q.2 : Int))
    · have e := h.2 q h1 h2
      rw [Maps.atKey_of_not_has hh, hf] at e
      cases e
    · simp
theorem litP_same {q q' : Nat × Nat} (h1 : q.1 < 16) (h2 : q.2 < 16) (h1' : q'.1 < 16) (h2' : q'.2 < 16) : (litP (q.1 : Int) (q.2 : Int)).sameKey (litP (q'.1 : Int) (q'.2 : Int)) = decide (q = q') := by
  by_cases e : q = q'
  · rw [e, WideAt.sameKey_self (litP_key _ _)]; simp
  · rw [Maps.sameKey_ne (litP_ne h1 h2 h1' h2' e), decide_eq_false e]
theorem DG.stay {D : DataW Unit} {f : Nat × Nat → Bool} {p q : Nat × Nat} {left : Lit → Bool} (h : DG f p left D) (h1 : q.1 < 16) (h2 : q.2 < 16) (hg : gtP p q = false) : DG f p (fun z => left z && !z.sameKey (litP (q.1 : Int) (q.2 : Int))) D := by
  refine ⟨h.1.congr (fun x hx1 hx2 => ?_), h.2⟩
  show _ = (f x && !(gtP p x && !(left (litP (x.1 : Int) (x.2 : Int)) && !(litP (x.1 : Int) (x.2 : Int)).sameKey (litP (q.1 : Int) (q.2 : Int)))))
  rw [litP_same hx1 hx2 h1 h2]
  by_cases e : x = q
  · rw [e, hg]; simp
  · rw [decide_eq_false e]; simp
theorem DG.struck {D : DataW Unit} {f : Nat × Nat → Bool} {p q : Nat × Nat} {left : Lit → Bool} (h : DG f p left D) (h1 : q.1 < 16) (h2 : q.2 < 16) (hg : gtP p q = true) : DG f p (fun z => left z && !z.sameKey (litP (q.1 : Int) (q.2 : Int))) (D.del (litP (q.1 : Int) (q.2 : Int))) := by
  refine ⟨(h.1.del h1 h2).congr (fun x hx1 hx2 => ?_), h.2.del _⟩
  show _ = (f x && !(gtP p x && !(left (litP (x.1 : Int) (x.2 : Int)) && !(litP (x.1 : Int) (x.2 : Int)).sameKey (litP (q.1 : Int) (q.2 : Int)))))
  rw [litP_same hx1 hx2 h1 h2]
  by_cases e : x = q
  · rw [if_pos e, e, hg]; simp
  · rw [if_neg e, decide_eq_false e]; simp
theorem DG.done {D : DataW Unit} {f : Nat × Nat → Bool} {p : Nat × Nat} {left : Lit → Bool} (h : DG f p left D) (hl : ∀ kl, left kl = false) : MapIs D (fun q => f q && !gtP p q) ∧ KeysIn D :=
  ⟨h.1.congr (fun q _ _ => by rw [hl]; simp), h.2⟩
theorem part_keyV (key : Value) (kl : Lit) (h : keyOf Tryz.prog 79 key = some kl) : ∃ x : Int × Int, key = .agg #[.int .i64 x.1, .int .i64 x.2] := by
  obtain ⟨c, b, rfl, _⟩ := part_key_inv h
  exact ⟨(c, b), rfl⟩
theorem bool_elemV (v : Value) (y : DataW Unit × List MemPlace) (h : plainElem Tryz.prog 4 v = some y) : ∃ c : Bool, v = .bool c := by
  obtain ⟨x, rfl, _⟩ := plainElem_bool_inv Tryz.underlying4 h
  exact ⟨x, rfl⟩
/-- the key that comes is a part below 16 -/
theorem key_nat {D : DataW Unit} (hk : KeysIn D) {x : Int × Int} {kl : Lit} {d : DataW Unit} (h : keyOf Tryz.prog 79 (.agg #[.int .i64 x.1, .int .i64 x.2]) = some kl) (hat : ∀ zd, D.atKey kl zd = d) :
    ∃ q : Nat × Nat, x = ((q.1 : Int), (q.2 : Int)) ∧ q.1 < 16 ∧ q.2 < 16 ∧ kl = litP (q.1 : Int) (q.2 : Int) := by
  obtain ⟨q, h1, h2, rfl⟩ := hk kl (Maps.has_true_of_atKey hat)
  obtain ⟨c, b, e, wc, wb, ek⟩ := part_key_inv h
  obtain ⟨e1, e2⟩ := litP_inj (wf_16 _ h1) (wf_16 _ h2) wc wb ek
  simp only [Value.agg.injEq, Array.mk.injEq, List.cons.injEq, Value.int.injEq, and_true, true_and] at e
  exact ⟨q, Prod.ext (by rw [e.1, e1]) (by rw [e.2, e2]), h1, h2, rfl⟩
theorem hasPart_was (x c b : Int) (w : World) (r : Bool) (hx : 0 ≤ x ∧ x ≤ 15) (hc : 0 ≤ c ∧ c ≤ 15) (hb : 0 ≤ b) (hr : hpB x c b = r) :
    Calls Tryz.prog 126 #[.int .i64 x, .agg #[.int .i64 c, .int .i64 b]] w fun e w' => e = .returned (.bool r) ∧ Below w.heap.size w w' := by
  subst hr
  exact hasPart_any x c b w hx hc hb
/-- the step of a range over a map from parts below 16 -/
theorem next_part {w : World} {ops : Array Oper} {rest : List Oper} {o : Oper} {a : Act} {Q : Exit → Act → World → Prop} (hg : o.guard = none) (it : Operand) (hop : o.op = Op.next it false) (b r n : Nat) (D : DataW Unit) (left : Lit → Bool) (cnt : Nat)
    (hit : a.eval it = .pointer (some ⟨r, 0, none⟩)) (h : w.ranges Tryz.prog 79 (plainElem Tryz.prog 4) b r n D left cnt) (hk : KeysIn D)
    (hDone : (∀ kl, left kl = false) → wpList Tryz.prog ops Q rest (a.put o.dst (.tuple #[.bool false])) w)
    (hMore : ∀ (q1 q2 : Nat) (v : Value) (w' : World) (cnt' : Nat), q1 < 16 → q2 < 16 → w'.ranges Tryz.prog 79 (plainElem Tryz.prog 4) b r n D (fun z => left z && !z.sameKey (litP (q1 : Int) (q2 : Int))) cnt' → cnt' < cnt →
      w.grownBy w' (some r) → (Instr.entry (.pointer (some ⟨r, 0, none⟩))).run Tryz.prog w' = .ok (.tuple #[.agg #[.int .i64 q1, .int .i64 q2], v]) w' → wpList Tryz.prog ops Q rest (a.put o.dst (.tuple #[.bool true, .agg #[.int .i64 q1, .int .i64 q2], v])) w') :
    wpList Tryz.prog ops Q (o :: rest) a w := by
  refine wpList_next_ranges w hg it hop 79 part_keyed (plainElem Tryz.prog 4) (fun x : Int × Int => Value.agg #[.int .i64 x.1, .int .i64 x.2]) Value.bool part_keyV bool_elemV b r n D left cnt hit h (fun _ hl => hDone hl) ?_
  intro x c kl y w' cnt' hkey hlk hv hat hrg hlt hgr hsz hen
  obtain ⟨q, rfl, h1, h2, rfl⟩ := key_nat hk hkey hat
  exact hMore q.1 q.2 (.bool c) w' cnt' h1 h2 hrg hlt hgr hen
/-- What dropGreater leaves. -/
def DropPost (b n : Nat) (f : Nat × Nat → Bool) (p : Nat × Nat) (w : World) (e : Ending) (w' : World) : Prop :=
  e = .returned (.tuple #[]) ∧ (∃ D' : DataW Unit, w'.ownsMap Tryz.prog 79 (plainElem Tryz.prog 4) b n D' ∧ MapIs D' (fun q => f q && !gtP p q) ∧ KeysIn D') ∧ w.grownBy w' (some b)
theorem gcell {w w' : World} {row : Option Nat} (h : w.grownBy w' row) {a : Addr} (hb : a.block < w.heap.size) (hne : some a.block ≠ row) : w'.cell? a = w.cell? a := by
  have e := h.block a.block hb hne
  unfold World.cell?
  rw [e]
theorem PBox.grown {w w' : World} {row : Option Nat} {g : Nat} {c b : Int} (h : PBox w g c b) (hg : w.grownBy w' row) (hne : some g ≠ row) : PBox w' g c b :=
  ⟨Nat.lt_of_lt_of_le h.1 hg.size, (gcell hg (a := ⟨g, 0, none⟩) h.1 hne).trans h.2.1, (gcell hg (a := ⟨g, 1, none⟩) h.1 hne).trans h.2.2⟩
theorem grown_of {w w' : World} (hb : Below w.heap.size w w') : w.grownBy w' none := ⟨hb.os, hb.tape, hb.output, hb.size, fun k hk _ => hb.block k hk⟩

set_option maxHeartbeats 2000000 in
set_option maxRecDepth 100000 in
theorem dropGreater_any (b n : Nat) (D : DataW Unit) (f : Nat × Nat → Bool) (pc pb : Nat) (w : World) (hp1 : pc < 16) (hp2 : pb < 16) (hown : w.ownsMap Tryz.prog 79 (plainElem Tryz.prog 4) b n D) (hm : MapIs D f) (hk : KeysIn D) :
    Calls Tryz.prog 102 #[.map (some b), .agg #[.int .i64 pc, .int .i64 pb]] w (DropPost b n f (pc, pb) w) := by
  have hown1 := hown.alloc (.cells #[.int .i64 pc, .int .i64 pb] 79)
  have px := PBox.new w (pc : Int) (pb : Int) 79
  have HB1 := hide (bel1 w (.cells #[.int .i64 pc, .int .i64 pb] 79))
  have hbl := hown.lt
  clear hown
  go_enter Tryz.func102, Tryz.ntmps102
  go_wp2_with (first
    | (at_range; refine wpList_range_own _ rfl _ 137 rfl 79 4 part_keyed Tryz.underlying137 _ b n _ rfl hown1 ?_; intro w0 hrg0 hg0 hs0)
    | go_in)
  go_frame
  simp only [World.size_alloc] at hrg0 ⊢
  have P0 := px.grown hg0 (by simp)
  have HG0 := hide hg0
  have HS0 := hide hs0
  clear px hg0 hs0 hown1
  go_loopw [4] (fun _ wr => ∃ (left : Lit → Bool) (cnt : Nat) (D' : DataW Unit), wr.ranges Tryz.prog 79 (plainElem Tryz.prog 4) b (w.heap.size + 1) n D' left cnt ∧ DG f (pc, pb) left D' ∧ w.grownBy wr (some b) ∧ PBox wr w.heap.size (pc : Int) (pb : Int))
    (fun _ wr => wr.rangeLeft b (w.heap.size + 1))
  case atStart => exact ⟨_, _, _, hrg0, DG.start hm hk, gtrans (grown_of HB1.out) HG0.out |>.but _, P0⟩
  case round =>
    obtain ⟨left, cnt, D', hrg, hd, hg, hp⟩ := hrel
    clear P0 hrg0
    go_wp2_with (first
      | (at_next; refine next_part rfl _ rfl b (w.heap.size + 1) n _ _ _ rfl hrg hd.2 ?_ ?_)
      | go_in)
    · intro hl0
      go_wp2
      go_end0
      exact ⟨rfl, ⟨D', hrg.owns, hd.done hl0⟩, hg⟩
    · intro q1 q2 v w1 cnt1 hq1 hq2 hrg1 hlt hg1 hen
      have hg2 := hg.andThen hg1 (fun j hj => by cases hj; exact Or.inl (Nat.le_succ _))
      have P1 := hp.grown hg1 (by simp)
      have qx := PBox.new w1 (q1 : Int) (q2 : Int) 79
      have P2 := P1.below (bel1 w1 (.cells #[.int .i64 q1, .int .i64 q2] 79))
      have hg3 := gtrans hg2 ((grown_of (bel1 w1 (.cells #[.int .i64 q1, .int .i64 q2] 79))).but (some b))
      have hr3 := hrg1.alloc (.cells #[.int .i64 q1, .int .i64 q2] 79)
      have HD := hide hd
      have HG3 := hide hg3
      have HR3 := hide hr3
      have HRG := hide hrg
      have HLT := hide hlt
      have HPB := hide P2
      obtain ⟨_, p0, p1⟩ := P2
      obtain ⟨_, u0, u1⟩ := qx
      have hwf1 := hide (wf_16 q1 hq1)
      have hwf2 := hide (wf_16 q2 hq2)
      clear hrg1 hg1 hrg hd hg hp hg2 hlt P1 hg3 hr3
      by_cases hq : q1 = pc ∧ q2 = pb
      · obtain ⟨rfl, rfl⟩ := hq
        have HQ : Hid (gtP (q1, q2) (q1, q2) = false) := by unfold Hid gtP; simp
        go_wp2
        go_roundw
        case rel => exact ⟨(fun z => left z && !z.sameKey (litP (q1 : Int) (q2 : Int))), cnt1, D', HR3.out, HD.out.stay (q := (q1, q2)) hq1 hq2 HQ.out, HG3.out, HPB.out⟩
        case measure => rw [HR3.out.left_eq, HRG.out.left_eq]; exact HLT.out
      · have hne : ((q1, q2) != (pc, pb)) = true := by
          rw [bne_iff_ne]
          intro e
          exact hq (by simpa using e)
        have hsub := andNot_zero (pc : Int) q1 (wf_16 pc hp1) hq1
        rw [Int.toNat_natCast] at hsub
        have hh := hp_nat (q2 : Int) pc pb
        rw [Int.toNat_natCast] at hh
        by_cases hs : pc &&& q1 = pc
        · have hA : (bits .andNot .i64 (pc : Int) (q1 : Int) == 0) = true := by rw [beq_iff_eq]; exact hsub.2 ⟨by omega, hs⟩
          cases hv : (q2 &&& pc == pb) with
          | false =>
            have HQ : Hid (gtP (pc, pb) (q1, q2) = false) := by unfold Hid gtP subP; simp only [hv]; simp
            rw [hv] at hh
            have HH := hide hh
            clear hv hh hs hsub hne
            have hpr : Hid ((0 ≤ (q2 : Int) ∧ (q2 : Int) ≤ 15) ∧ (0 ≤ (pc : Int) ∧ (pc : Int) ≤ 15) ∧ 0 ≤ (pb : Int)) := ⟨⟨by omega, by omega⟩, ⟨by omega, by omega⟩, by omega⟩
            by_cases e1 : q1 = pc
            · have e2 : ¬ ((q2 : Int) = (pb : Int)) := fun e => hq ⟨e1, by omega⟩
              subst e1
              clear hq
              go_wp2_with fail
              refine (hasPart_was _ _ _ _ false hpr.out.1 hpr.out.2.1 hpr.out.2.2 HH.out).mono ?_
              rintro e w4 ⟨rfl, b4⟩
              have HG4 := hide (gtrans HG3.out ((grown_of b4).but (some b)))
              have HR4 := hide (HR3.out.kept (grown_of b4) (by simp) (by simp))
              have HP4 := hide (HPB.out.below b4)
              go_wp2
              go_roundw
              case rel => exact ⟨(fun z => left z && !z.sameKey (litP (q1 : Int) (q2 : Int))), cnt1, D', HR4.out, HD.out.stay (q := (q1, q2)) hq1 hq2 HQ.out, HG4.out, HP4.out⟩
              case measure => rw [HR4.out.left_eq, HRG.out.left_eq]; exact HLT.out
            · have e2 : ¬ ((q1 : Int) = (pc : Int)) := fun e => e1 (by omega)
              clear hq e1
              go_wp2_with fail
              refine (hasPart_was _ _ _ _ false hpr.out.1 hpr.out.2.1 hpr.out.2.2 HH.out).mono ?_
              rintro e w4 ⟨rfl, b4⟩
              have HG4 := hide (gtrans HG3.out ((grown_of b4).but (some b)))
              have HR4 := hide (HR3.out.kept (grown_of b4) (by simp) (by simp))
              have HP4 := hide (HPB.out.below b4)
              go_wp2
              go_roundw
              case rel => exact ⟨(fun z => left z && !z.sameKey (litP (q1 : Int) (q2 : Int))), cnt1, D', HR4.out, HD.out.stay (q := (q1, q2)) hq1 hq2 HQ.out, HG4.out, HP4.out⟩
              case measure => rw [HR4.out.left_eq, HRG.out.left_eq]; exact HLT.out
          | true =>
            have HQ : Hid (gtP (pc, pb) (q1, q2) = true) := by unfold Hid gtP subP; simp only [hv, hne, hs]; simp
            rw [hv] at hh
            have HH := hide hh
            clear hv hh hs hsub hne
            have hpr : Hid ((0 ≤ (q2 : Int) ∧ (q2 : Int) ≤ 15) ∧ (0 ≤ (pc : Int) ∧ (pc : Int) ≤ 15) ∧ 0 ≤ (pb : Int)) := ⟨⟨by omega, by omega⟩, ⟨by omega, by omega⟩, by omega⟩
            have HU0 := hide u0
            have HU1 := hide u1
            by_cases e1 : q1 = pc
            · have e2 : ¬ ((q2 : Int) = (pb : Int)) := fun e => hq ⟨e1, by omega⟩
              subst e1
              clear hq
              go_wp2_with fail
              refine (hasPart_was _ _ _ _ true hpr.out.1 hpr.out.2.1 hpr.out.2.2 HH.out).mono ?_
              rintro e w4 ⟨rfl, b4⟩
              have HG4 := hide (gtrans HG3.out ((grown_of b4).but (some b)))
              have hr4 := HR3.out.kept (grown_of b4) (by simp) (by simp)
              have HP4 := hide (HPB.out.below b4)
              have v0 := (b4.cell (p := ⟨w1.heap.size, 0, none⟩) (by simp)).trans HU0.out
              have v1 := (b4.cell (p := ⟨w1.heap.size, 1, none⟩) (by simp)).trans HU1.out
              clear u0 u1 p0 p1 b4
              go_wp2_with (first
                | (at_delete; refine wpList_delete_ranges _ rfl _ _ 137 79 rfl 4 part_keyed Tryz.underlying137 _ b (w.heap.size + 1) n _ _ _ rfl hr4 _ _ rfl (part_key _ _ hwf1.out hwf2.out) ?_; intro w5 cnt5 hrg5 hle hturn; go_frame)
                | go_in)
              rw [Maps.strike_twice] at hrg5
              have HG5 := hide (HG4.out.andThen hturn.grown (fun j hj => by cases hj; exact Or.inr rfl))
              have HP5 := hide (HP4.out.grown hturn.grown (by simp; omega))
              go_roundw
              case rel => exact ⟨(fun z => left z && !z.sameKey (litP (q1 : Int) (q2 : Int))), cnt5, _, hrg5, HD.out.struck (q := (q1, q2)) hq1 hq2 HQ.out, HG5.out, HP5.out⟩
              case measure => rw [hrg5.left_eq, HRG.out.left_eq]; have := HLT.out; omega
            · have e2 : ¬ ((q1 : Int) = (pc : Int)) := fun e => e1 (by omega)
              clear hq e1
              go_wp2_with fail
              refine (hasPart_was _ _ _ _ true hpr.out.1 hpr.out.2.1 hpr.out.2.2 HH.out).mono ?_
              rintro e w4 ⟨rfl, b4⟩
              have HG4 := hide (gtrans HG3.out ((grown_of b4).but (some b)))
              have hr4 := HR3.out.kept (grown_of b4) (by simp) (by simp)
              have HP4 := hide (HPB.out.below b4)
              have v0 := (b4.cell (p := ⟨w1.heap.size, 0, none⟩) (by simp)).trans HU0.out
              have v1 := (b4.cell (p := ⟨w1.heap.size, 1, none⟩) (by simp)).trans HU1.out
              clear u0 u1 p0 p1 b4
              go_wp2_with (first
                | (at_delete; refine wpList_delete_ranges _ rfl _ _ 137 79 rfl 4 part_keyed Tryz.underlying137 _ b (w.heap.size + 1) n _ _ _ rfl hr4 _ _ rfl (part_key _ _ hwf1.out hwf2.out) ?_; intro w5 cnt5 hrg5 hle hturn; go_frame)
                | go_in)
              rw [Maps.strike_twice] at hrg5
              have HG5 := hide (HG4.out.andThen hturn.grown (fun j hj => by cases hj; exact Or.inr rfl))
              have HP5 := hide (HP4.out.grown hturn.grown (by simp; omega))
              go_roundw
              case rel => exact ⟨(fun z => left z && !z.sameKey (litP (q1 : Int) (q2 : Int))), cnt5, _, hrg5, HD.out.struck (q := (q1, q2)) hq1 hq2 HQ.out, HG5.out, HP5.out⟩
              case measure => rw [hrg5.left_eq, HRG.out.left_eq]; have := HLT.out; omega
        · have hA : (bits .andNot .i64 (pc : Int) (q1 : Int) == 0) = false := by
            rw [beq_eq_false_iff_ne]
            intro e
            exact hs (hsub.1 e).2
          have HQ : Hid (gtP (pc, pb) (q1, q2) = false) := by
            unfold Hid gtP subP
            rw [show (pc &&& q1 == pc) = false from by simpa using hs]
            rfl
          have e2 : ¬ ((q1 : Int) = (pc : Int)) := fun e => hs (by
            obtain rfl : q1 = pc := by omega
            exact Nat.and_self q1)
          clear hs hsub hne hq hh
          go_wp2
          go_roundw
          case rel => exact ⟨(fun z => left z && !z.sameKey (litP (q1 : Int) (q2 : Int))), cnt1, D', HR3.out, HD.out.stay (q := (q1, q2)) hq1 hq2 HQ.out, HG3.out, HPB.out⟩
          case measure => rw [HR3.out.left_eq, HRG.out.left_eq]; exact HLT.out
end Go.Proofs.YtgebplpbnaeckaaGreatDoor

/- CrO: The program's list of all parts, in order. -/
namespace Go.Proofs.YtgebplpbnaeckaaGreatDoor
open Go.RowKit Go.Joins

def or0 (n s : Nat) : List (Nat × Nat) := (List.range s).flatMap (ordS n)
def or1 (n s c : Nat) : List (Nat × Nat) := or0 n s ++ (List.range c).flatMap (ordC s)
def or2 (n s c b : Nat) : List (Nat × Nat) := or1 n s c ++ ((List.range b).filter fun b => b &&& c == b).map fun b => (c, b)
theorem or1_zero (n s : Nat) : or1 n s 0 = or0 n s := by simp [or1]
theorem or2_zero (n s c : Nat) : or2 n s c 0 = or1 n s c := by simp [or2]
theorem or1_end (n s : Nat) : or1 n s (2 ^ n) = or0 n (s + 1) := by
  unfold or1 or0
  rw [List.range_succ, List.flatMap_append]
  simp [ordS]
theorem or0_end (n : Nat) : or0 n (n + 1) = ordL n := rfl
theorem or2_end {n s c : Nat} (h : wt c = s) : or2 n s c (c + 1) = or1 n s (c + 1) := by
  unfold or2 or1
  rw [List.range_succ (n := c), List.flatMap_append, List.append_assoc]
  simp only [List.flatMap_cons, List.flatMap_nil, List.append_nil, ordC, if_pos h, List.range_succ (n := c)]
theorem or1_skip {n s c : Nat} (h : wt c ≠ s) : or1 n s (c + 1) = or1 n s c := by
  unfold or1
  rw [List.range_succ (n := c), List.flatMap_append]
  simp [ordC, if_neg h]
theorem or2_yes {n s c b : Nat} (h : (b &&& c == b) = true) : or2 n s c (b + 1) = or2 n s c b ++ [(c, b)] := by
  unfold or2
  rw [List.range_succ, List.filter_append, List.map_append, List.append_assoc]
  congr 2
  simp only [List.filter_cons, h, if_true, List.filter_nil, List.map_cons, List.map_nil]
theorem or2_off {n s c b : Nat} (h : (b &&& c == b) = false) : or2 n s c (b + 1) = or2 n s c b := by
  unfold or2
  rw [List.range_succ, List.filter_append, List.map_append]
  simp [h]
/-- the list under way -/
def PO (w : World) (v : Value) (l : List (Nat × Nat)) (K : Nat) (wq : World) : Prop := OwnsP wq w.heap.size v (ofP l) ∧ l.length ≤ K ∧ Below w.heap.size w wq
theorem PO.to {w : World} {v : Value} {l l' : List (Nat × Nat)} {K K' : Nat} {wq : World} (h : PO w v l K wq) (e : l' = l) (hk : K ≤ K') : PO w v l' K' wq := by
  subst e
  exact ⟨h.1, Nat.le_trans h.2.1 hk, h.2.2⟩
theorem PO.push {w : World} {v v' : Value} {l : List (Nat × Nat)} {K c b : Nat} {wq w5 : World} (h : PO w v l K wq) (o : Obj) (hg : (wq.alloc o).grownBy w5 v.ownBlock)
    (ho : w5.ownsRow w.heap.size 79 2 v' ((ofP l).length + 1) (pflat (ofP l) ++ [.int .i64 (c : Int), .int .i64 (b : Int)])) : PO w v' (l ++ [(c, b)]) (K + 1) w5 := by
  have hp' : wq.ownsRow w.heap.size 79 2 v (ofP l).length (pflat (ofP l)) := h.1
  have hge : ∀ k, v.ownBlock = some k → w.heap.size ≤ k := fun k hk => (World.ownsRow.lt hp' k hk).1
  have e : ofP (l ++ [(c, b)]) = ofP l ++ [((c : Int), (b : Int))] := by simp [ofP]
  have hB := bnext h.2.2 (bel1 wq o)
  exact ⟨by rw [e]; exact OwnsP.push ho, by rw [List.length_append]; have := h.2.1; simpa using this, bgrown hB hg hB.size hge⟩
theorem ones_was (x s : Nat) (w : World) (hx : x < 16) (h : wt x = s) : Calls Tryz.prog 122 #[.int .u64 x] w fun e w' => e = .returned (.int .i64 (s : Nat)) ∧ w = w' := by
  subst h
  exact onesCount_any x w hx
set_option maxHeartbeats 8000000 in
set_option maxRecDepth 100000 in
theorem partsInOrder_any (N : Nat) (w : World) (hn : 1 ≤ N ∧ N ≤ 4) :
    Calls Tryz.prog 100 #[.int .i64 (N : Int)] w fun e w' => ∃ v, e = .returned v ∧ OwnsP w' w.heap.size v (ofP (ordL N)) ∧ Below w.heap.size w w' := by
  obtain ⟨j0, hj0, hy0, hy1, hy2⟩ := info_parts info_part
  have p2 : 2 ^ N ≤ 16 := Nat.pow_le_pow_right (n := 2) (by omega) hn.2
  have e : ((2 : Int) ^ N) = ((2 ^ N : Nat) : Int) := by rw [Int.natCast_pow]; rfl
  obtain ⟨Q, hQ⟩ : ∃ Q, Q = 2 ^ N := ⟨_, rfl⟩
  rw [← hQ] at p2 e
  have hsh : wrap64 ((2 : Int) ^ N) = (Q : Int) := by
    rw [e]
    unfold wrap64
    omega
  have HQ := hide hQ
  have P0 : PO w (.slice none 0 0) [] 0 w := ⟨World.ownsRow_nil _ _ _ _, Nat.le_refl _, Below.refl _ _⟩
  clear hQ e
  go_enter Tryz.func100, Tryz.ntmps100
  go_wp2_with fail
  go_loopw [3, 9] (fun v i wq => ∃ s : Nat, s ≤ N + 1 ∧ i = .int .i64 s ∧ PO w v (or0 N s) (s * 256) wq) (fun _ i _ => N + 1 - (intOf i).toNat)
  case atStart => exact ⟨0, Nat.zero_le _, rfl, P0.to rfl (Nat.zero_le _)⟩
  case round =>
    clear P0
    obtain ⟨s, hs, rfl, hc⟩ := hrel
    obtain ⟨va, vc, rfl, _⟩ := hc.1.form
    by_cases hlt : (s : Int) < (N : Int) + 1
    · have HC := hide (hc.to (or1_zero N s) (Nat.le_refl _))
      clear hc
      go_wp2_with fail
      simp only [hsh]
      go_loopw [3, 14] (fun v i wq => ∃ c : Nat, c ≤ Q ∧ i = .int .i64 c ∧ PO w v (or1 N s c) (s * 256 + c * 16) wq) (fun _ i _ => Q - (intOf i).toNat)
      case atStart => exact ⟨0, Nat.zero_le _, rfl, HC.out⟩
      case round =>
        clear HC
        obtain ⟨c, hcq, rfl, hc⟩ := hrel
        obtain ⟨va, vc, rfl, _⟩ := hc.1.form
        by_cases hlc : c < Q
        · by_cases hw : wt c = s
          · have HC := hide (hc.to (or2_zero N s c) (Nat.le_refl _))
            have HW := hide hw
            have hss : ((s : Int) != (s : Int)) = false := by simp
            clear hc hw
            go_wp2_with (go_at_call 122; refine (ones_was c s _ (by omega) HW.out).mono ?_; rintro e w' ⟨rfl, rfl⟩)
            go_loopw [3, 24] (fun v i wq => ∃ b : Nat, b ≤ c + 1 ∧ i = .int .i64 b ∧ PO w v (or2 N s c b) (s * 256 + c * 16 + b) wq) (fun _ i _ => c + 1 - (intOf i).toNat)
            case atStart => exact ⟨0, Nat.zero_le _, rfl, HC.out⟩
            case round =>
              clear HC
              obtain ⟨b, hb, rfl, hc⟩ := hrel
              obtain ⟨va, vc, rfl, _⟩ := hc.1.form
              have HC := hide hc
              by_cases hbc : (b : Int) < (c : Int) + 1
              · have hz := andNot_zero (b : Int) c (by simp [Lit.wf, IntKind.min, IntKind.max, IntKind.bits, IntKind.signed]; omega) (by omega)
                rw [Int.toNat_natCast] at hz
                cases he : (b &&& c == b) with
                | true =>
                  have hand : (bits .andNot .i64 (b : Int) (c : Int) == 0) = true := by
                    rw [beq_iff_eq]
                    exact hz.2 ⟨by omega, by simpa using he⟩
                  have hop := hc.1
                  have hws := hc.2.2.size
                  have hl2 := hc.2.1
                  have hol : (ofP (or2 N s c b)).length ≤ s * 256 + c * 16 + b := by unfold ofP; rw [List.length_map]; exact hl2
                  have HE := hide he
                  clear hz he hc
                  go_wp2_with ((at_builtin; refine wpList_append_own _ rfl _ _ 71 rfl w.heap.size 79 j0 (.agg #[.int .i64 0, .int .i64 0]) 2 16 Tryz.underlying71 hj0 hy0 hy1 hy2 rfl (by decide) _ _ _ rfl (hop.alloc _) ⟨wr.heap.size, 0, none⟩ 1 1 [.int .i64 (c : Int), .int .i64 (b : Int)] rfl rfl (World.news_of_block (cs := #[.int .i64 (c : Int), .int .i64 (b : Int)]) (t := 79) (fr := (0, 0)) (heap_alloc_new wr _)) (by intro u hu; simp at hu; rcases hu with rfl | rfl <;> rfl) (by unfold maxLen; omega) (by omega) (by first | omega | (simp; omega)) ?_))
                  intro v' w6 hown' hgrow _
                  have V6 := HC.out.push (.cells #[.int .i64 (c : Int), .int .i64 (b : Int)] 79) hgrow hown'
                  rw [← or2_yes HE.out] at V6
                  obtain ⟨qa, qc, rfl, _⟩ := V6.1.form
                  have HV6 := hide V6
                  clear hop hown' hgrow V6
                  go_wp2
                  go_roundw
                  case rel => exact ⟨b + 1, by omega, by go_num, HV6.out⟩
                  case measure => simp only [intOf]; omega
                | false =>
                  have hand : (bits .andNot .i64 (b : Int) (c : Int) == 0) = false := by
                    rw [beq_eq_false_iff_ne]
                    intro h0
                    have := (hz.1 h0).2
                    rw [beq_eq_false_iff_ne] at he
                    exact he this
                  have HE := hide he
                  clear hz he hc
                  go_wp2
                  go_roundw
                  case rel => exact ⟨b + 1, by omega, by go_num, HC.out.to (or2_off HE.out) (by omega)⟩
                  case measure => simp only [intOf]; omega
              · obtain rfl : b = c + 1 := by omega
                clear hc
                go_wp2
                go_roundw
                case rel => exact ⟨c + 1, by omega, by go_num, HC.out.to (or2_end HW.out).symm (by omega)⟩
                case measure => simp only [intOf]; omega
          · have HC := hide (hc.to (or1_skip (n := N) hw) (Nat.le_refl _))
            obtain ⟨wc, hwc⟩ : ∃ wc, wt c = wc := ⟨_, rfl⟩
            have HWC := hide hwc
            have hss : ((wc : Int) != (s : Int)) = true := by rw [bne_iff_ne]; omega
            clear hc hw hwc
            go_wp2_with (go_at_call 122; refine (ones_was c wc _ (by omega) HWC.out).mono ?_; rintro e w' ⟨rfl, rfl⟩)
            go_roundw
            case rel => exact ⟨c + 1, by omega, by go_num, HC.out.to rfl (by omega)⟩
            case measure => simp only [intOf]; omega
        · obtain rfl : c = Q := by omega
          have HC := hide (hc.to (l' := or0 N (s + 1)) (K' := (s + 1) * 256) (by rw [HQ.out]; exact (or1_end N s).symm) (by omega))
          clear hc
          go_wp2
          go_roundw
          case rel => exact ⟨s + 1, by omega, by go_num, HC.out⟩
          case measure => simp only [intOf]; omega
    · obtain rfl : s = N + 1 := by omega
      have HC := hide hc
      clear hc
      go_wp2
      go_ret
      exact ⟨_, rfl, HC.out.1, HC.out.2.2⟩
end Go.Proofs.YtgebplpbnaeckaaGreatDoor
