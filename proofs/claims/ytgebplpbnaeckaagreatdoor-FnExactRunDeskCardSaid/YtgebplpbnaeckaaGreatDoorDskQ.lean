/- The desk of the program: its questions, maps of functions by words. -/
import Derived.Test.YtgebplpbnaeckaaGreatDoorMg01
import Derived.Maps.Own
import Derived.Maps.OwnSet
import Derived.StringKeys
namespace Go.Proofs.YtgebplpbnaeckaaGreatDoor
open Go Go.RowKit Go.Joins Go.ChangeMaps Go.MapKept Go.WideShapes Go.WideMaps
open Go.Maps (Keyed)

/-- how a function stands in a map: by its number -/
def fnElem (v : Value) : Option (DataW Unit × List MemPlace) := match v with
  | .func (.func f) a b => if a.size = 0 ∧ b.size = 0 then some (.lit (.int .i64 (f : Int)), []) else none
  | .nilFunc => some (.nil, [])
  | _ => none
theorem fnElem_mk (f : Nat) : fnElem (.func (.func f) #[] #[]) = some (.lit (.int .i64 (f : Int)), []) := rfl
theorem fnElem_nil : fnElem .nilFunc = some (.nil, []) := rfl
theorem fnElem_inv {v : Value} {f : Nat} {ps : List MemPlace} (h : fnElem v = some (.lit (.int .i64 (f : Int)), ps)) : v = .func (.func f) #[] #[] := by
  unfold fnElem at h
  split at h
  · rename_i f' a b
    split at h
    · rename_i hab
      simp only [Option.some.injEq, Prod.mk.injEq, DataW.lit.injEq, Lit.int.injEq, true_and] at h
      obtain ⟨h1, _⟩ := h
      obtain rfl : f' = f := by first | exact h1 | exact Int.ofNat.inj h1 | simpa using h1
      rw [Array.eq_empty_of_size_eq_zero hab.1, Array.eq_empty_of_size_eq_zero hab.2]
    · cases h
  · simp at h
  · cases h
theorem insert_own {H : Type} {P : Program} (w : World) {ops : Array Oper} {rest : List Oper} {o : Oper} {a : Act} {Q : Exit → Act → World → Prop}
    (hg : o.guard = none) (m x v : Operand) (t : TypeId) (hop : o.op = Op.insert t m x v)
    (k e : TypeId) (K : Keyed P k) (ht : P.underlying t = some (.map k e)) (R : Value → Option (DataW H × List MemPlace)) (b n : Nat) (D : DataW H)
    (hm : a.eval m = .map (some b)) (hown : w.ownsMap P k R b n D) (hn : n < maxLen) (key val : Value) (kl : Lit) (hx : a.eval x = key) (hv : a.eval v = val) (hkey : keyOf P k key = some kl)
    (d : DataW H) (ps : List MemPlace) (hval : R val = some (d, ps))
    (hK : ∀ w', w'.ownsMap P k R b (n + 1) (D.put kl d) → w.grownBy w' (some b) → wpList P ops Q rest (a.put o.dst undef) w') :
    wpList P ops Q (o :: rest) a w := by
  refine wpList_plain hg fun K' hK' => ?_
  obtain ⟨w', hrun, r1, r2⟩ := hown.update K ht hn hkey hval
  unfold Oper.wp
  simp [execOp, hop, hm, hx, hv, hrun, Result.andThen]
  exact hK' _ _ (hK w' r1 r2)
theorem strKeyed : Keyed Tryz.prog 9 := Go.Maps.string_keyed Tryz.underlying9
def keyL (s : ByteArray) : Lit := .string s.data.toList
theorem str_key (s : ByteArray) (h : s.size ≤ maxLen) : keyOf Tryz.prog 9 (.string s) = some (keyL s) := keyOf_string_mk Tryz.underlying9 h
theorem zeroFnS (w : World) : (zeroValue 39).run Tryz.prog w = .ok .nilFunc w := by kernel_rfl
theorem zeroFnV (w : World) : (zeroValue 88).run Tryz.prog w = .ok .nilFunc w := by kernel_rfl
/-- the questions on spaces -/
def mapS : DataW Unit := (((DataW.map []).put (keyL ⟨#[99, 114, 105, 116, 105, 99, 97, 108]⟩) (.lit (.int .i64 (72 : Nat)))).put (keyL ⟨#[109, 101, 100, 105, 97, 110]⟩) (.lit (.int .i64 (75 : Nat)))).put (keyL ⟨#[98, 108, 111, 99, 107, 101, 100]⟩) (.lit (.int .i64 (78 : Nat)))
def mapV : DataW Unit := ((((DataW.map []).put (keyL ⟨#[109, 97, 106, 111, 114, 105, 116, 121]⟩) (.lit (.int .i64 (81 : Nat)))).put (keyL ⟨#[109, 101, 100, 105, 97, 110, 115]⟩) (.lit (.int .i64 (83 : Nat)))).put (keyL ⟨#[115, 108, 97, 116, 101, 114]⟩) (.lit (.int .i64 (86 : Nat)))).put (keyL ⟨#[114, 97, 110, 107, 101, 100]⟩) (.lit (.int .i64 (88 : Nat)))
set_option maxHeartbeats 1000000 in
set_option maxRecDepth 100000 in
theorem spaceQuestions_any (w : World) : Calls Tryz.prog 51 #[] w fun e w' => e = .returned (.map (some w.heap.size)) ∧ w'.ownsMap Tryz.prog 9 fnElem w.heap.size 3 mapS ∧ Below w.heap.size w w' := by
  have hmm := fun w => @run_makeMap Tryz.prog 85 w
  have H0 := World.ownsMap_made w Tryz.prog 9 fnElem
  have B0 : Below w.heap.size w (w.alloc (.map #[] 0)) := (Below.refl _ _).alloc (Nat.le_refl _) _
  go_enter Tryz.func51, Tryz.ntmps51
  go_wp2_with (refine insert_own _ rfl _ _ _ 85 rfl 9 39 strKeyed Tryz.underlying85 fnElem w.heap.size 0 _ rfl H0 (by unfold maxLen; omega) _ _ _ rfl rfl (str_key _ (by decide)) _ [] (fnElem_mk _) ?_)
  intro w1 H1 g1
  have B1 := B0.grown g1 (by simp) (fun j hj => by cases hj; exact Nat.le_refl _)
  clear H0 B0 g1
  go_wp2_with (refine insert_own _ rfl _ _ _ 85 rfl 9 39 strKeyed Tryz.underlying85 fnElem w.heap.size 1 _ rfl H1 (by unfold maxLen; omega) _ _ _ rfl rfl (str_key _ (by decide)) _ [] (fnElem_mk _) ?_)
  intro w2 H2 g2
  have B2 := B1.grown g2 B1.size (fun j hj => by cases hj; exact Nat.le_refl _)
  clear H1 B1 g2
  go_wp2_with (refine insert_own _ rfl _ _ _ 85 rfl 9 39 strKeyed Tryz.underlying85 fnElem w.heap.size 2 _ rfl H2 (by unfold maxLen; omega) _ _ _ rfl rfl (str_key _ (by decide)) _ [] (fnElem_mk _) ?_)
  intro w3 H3 g3
  have B3 := B2.grown g3 B2.size (fun j hj => by cases hj; exact Nat.le_refl _)
  clear H2 B2 g3
  go_wp2
  go_ret
  exact ⟨rfl, H3, B3⟩
set_option maxHeartbeats 1000000 in
set_option maxRecDepth 100000 in
theorem votesQuestions_any (w : World) : Calls Tryz.prog 53 #[] w fun e w' => e = .returned (.map (some w.heap.size)) ∧ w'.ownsMap Tryz.prog 9 fnElem w.heap.size 4 mapV ∧ Below w.heap.size w w' := by
  have hmm := fun w => @run_makeMap Tryz.prog 90 w
  have H0 := World.ownsMap_made w Tryz.prog 9 fnElem
  have B0 : Below w.heap.size w (w.alloc (.map #[] 0)) := (Below.refl _ _).alloc (Nat.le_refl _) _
  go_enter Tryz.func53, Tryz.ntmps53
  go_wp2_with (refine insert_own _ rfl _ _ _ 90 rfl 9 88 strKeyed Tryz.underlying90 fnElem w.heap.size 0 _ rfl H0 (by unfold maxLen; omega) _ _ _ rfl rfl (str_key _ (by decide)) _ [] (fnElem_mk _) ?_)
  intro w1 H1 g1
  have B1 := B0.grown g1 (by simp) (fun j hj => by cases hj; exact Nat.le_refl _)
  clear H0 B0 g1
  go_wp2_with (refine insert_own _ rfl _ _ _ 90 rfl 9 88 strKeyed Tryz.underlying90 fnElem w.heap.size 1 _ rfl H1 (by unfold maxLen; omega) _ _ _ rfl rfl (str_key _ (by decide)) _ [] (fnElem_mk _) ?_)
  intro w2 H2 g2
  have B2 := B1.grown g2 B1.size (fun j hj => by cases hj; exact Nat.le_refl _)
  clear H1 B1 g2
  go_wp2_with (refine insert_own _ rfl _ _ _ 90 rfl 9 88 strKeyed Tryz.underlying90 fnElem w.heap.size 2 _ rfl H2 (by unfold maxLen; omega) _ _ _ rfl rfl (str_key _ (by decide)) _ [] (fnElem_mk _) ?_)
  intro w3 H3 g3
  have B3 := B2.grown g3 B2.size (fun j hj => by cases hj; exact Nat.le_refl _)
  clear H2 B2 g3
  go_wp2_with (refine insert_own _ rfl _ _ _ 90 rfl 9 88 strKeyed Tryz.underlying90 fnElem w.heap.size 3 _ rfl H3 (by unfold maxLen; omega) _ _ _ rfl rfl (str_key _ (by decide)) _ [] (fnElem_mk _) ?_)
  intro w4 H4 g4
  have B4 := B3.grown g4 B3.size (fun j hj => by cases hj; exact Nat.le_refl _)
  clear H3 B3 g4
  go_wp2
  go_ret
  exact ⟨rfl, H4, B4⟩
theorem fnElem_inv_nil {v : Value} {ps : List MemPlace} (h : fnElem v = some (.nil, ps)) : v = .nilFunc := by
  unfold fnElem at h
  split at h
  · split at h
    · simp at h
    · cases h
  · rfl
  · cases h
theorem key_ne {s : ByteArray} {l : List UInt8} (h : ¬ s = ⟨l.toArray⟩) : (Lit.string l).sameKey (keyL s) = false := by
  show (l == s.data.toList) = false
  rw [beq_eq_false_iff_ne]
  intro e
  exact h (by rw [e])
theorem mapS_eq : mapS = .map [(keyL ⟨#[98, 108, 111, 99, 107, 101, 100]⟩, .lit (.int .i64 (78 : Nat))), (keyL ⟨#[99, 114, 105, 116, 105, 99, 97, 108]⟩, .lit (.int .i64 (72 : Nat))), (keyL ⟨#[109, 101, 100, 105, 97, 110]⟩, .lit (.int .i64 (75 : Nat)))] := by kernel_rfl
theorem mapV_eq : mapV = .map [(keyL ⟨#[109, 97, 106, 111, 114, 105, 116, 121]⟩, .lit (.int .i64 (81 : Nat))), (keyL ⟨#[109, 101, 100, 105, 97, 110, 115]⟩, .lit (.int .i64 (83 : Nat))), (keyL ⟨#[114, 97, 110, 107, 101, 100]⟩, .lit (.int .i64 (88 : Nat))), (keyL ⟨#[115, 108, 97, 116, 101, 114]⟩, .lit (.int .i64 (86 : Nat)))] := by kernel_rfl
theorem look_yes {t e : TypeId} {D : DataW Unit} {w : World} {b n : Nat} (ht : Tryz.prog.underlying t = some (.map 9 e)) (hz : ∀ w, (zeroValue e).run Tryz.prog w = .ok .nilFunc w) (h : w.ownsMap Tryz.prog 9 fnElem b n D) (s : ByteArray) (f : Nat) (hs : s.size ≤ 100) (hat : D.atKey (keyL s) .nil = .lit (.int .i64 (f : Int))) (hh : Maps.has D (keyL s) = true) :
    (Instr.lookup t (.map (some b)) (.string s) true).run Tryz.prog w = .ok (.tuple #[.func (.func f) #[] #[], .bool true]) w := by
  obtain ⟨v, ps, hrun, hv⟩ := h.look_ok strKeyed ht (hz w) fnElem_nil (str_key s (by unfold maxLen; omega))
  rw [hat] at hv
  rw [hrun, hh, fnElem_inv hv]
theorem look_no {t e : TypeId} {D : DataW Unit} {w : World} {b n : Nat} (ht : Tryz.prog.underlying t = some (.map 9 e)) (hz : ∀ w, (zeroValue e).run Tryz.prog w = .ok .nilFunc w) (h : w.ownsMap Tryz.prog 9 fnElem b n D) (s : ByteArray) (hs : s.size ≤ 1048576) (hat : D.atKey (keyL s) .nil = .nil) (hh : Maps.has D (keyL s) = false) :
    (Instr.lookup t (.map (some b)) (.string s) true).run Tryz.prog w = .ok (.tuple #[.nilFunc, .bool false]) w := by
  obtain ⟨v, ps, hrun, hv⟩ := h.look_ok strKeyed ht (hz w) fnElem_nil (str_key s (by unfold maxLen; omega))
  rw [hat] at hv
  rw [hrun, hh, fnElem_inv_nil hv]
theorem mapS_crit : mapS.atKey (keyL ⟨#[99, 114, 105, 116, 105, 99, 97, 108]⟩) .nil = .lit (.int .i64 ((72 : Nat) : Int)) ∧ Maps.has mapS (keyL ⟨#[99, 114, 105, 116, 105, 99, 97, 108]⟩) = true := ⟨by kernel_rfl, by kernel_rfl⟩
theorem mapS_medn : mapS.atKey (keyL ⟨#[109, 101, 100, 105, 97, 110]⟩) .nil = .lit (.int .i64 ((75 : Nat) : Int)) ∧ Maps.has mapS (keyL ⟨#[109, 101, 100, 105, 97, 110]⟩) = true := ⟨by kernel_rfl, by kernel_rfl⟩
theorem mapS_blck : mapS.atKey (keyL ⟨#[98, 108, 111, 99, 107, 101, 100]⟩) .nil = .lit (.int .i64 ((78 : Nat) : Int)) ∧ Maps.has mapS (keyL ⟨#[98, 108, 111, 99, 107, 101, 100]⟩) = true := ⟨by kernel_rfl, by kernel_rfl⟩
theorem mapS_none {s : ByteArray} (h1 : ¬ s = ⟨#[99, 114, 105, 116, 105, 99, 97, 108]⟩) (h2 : ¬ s = ⟨#[109, 101, 100, 105, 97, 110]⟩) (h3 : ¬ s = ⟨#[98, 108, 111, 99, 107, 101, 100]⟩) : mapS.atKey (keyL s) .nil = .nil ∧ Maps.has mapS (keyL s) = false := by
  have e1 := key_ne (l := [99, 114, 105, 116, 105, 99, 97, 108]) h1
  have e2 := key_ne (l := [109, 101, 100, 105, 97, 110]) h2
  have e3 := key_ne (l := [98, 108, 111, 99, 107, 101, 100]) h3
  rw [mapS_eq]
  constructor
  · simp [DataW.atKey, keyL, List.find?] at e1 e2 e3 ⊢
    simp [e1, e2, e3]
  · simp [Maps.has, keyL] at e1 e2 e3 ⊢
    simp [e1, e2, e3]
theorem mapV_majr : mapV.atKey (keyL ⟨#[109, 97, 106, 111, 114, 105, 116, 121]⟩) .nil = .lit (.int .i64 ((81 : Nat) : Int)) ∧ Maps.has mapV (keyL ⟨#[109, 97, 106, 111, 114, 105, 116, 121]⟩) = true := ⟨by kernel_rfl, by kernel_rfl⟩
theorem mapV_mdns : mapV.atKey (keyL ⟨#[109, 101, 100, 105, 97, 110, 115]⟩) .nil = .lit (.int .i64 ((83 : Nat) : Int)) ∧ Maps.has mapV (keyL ⟨#[109, 101, 100, 105, 97, 110, 115]⟩) = true := ⟨by kernel_rfl, by kernel_rfl⟩
theorem mapV_slat : mapV.atKey (keyL ⟨#[115, 108, 97, 116, 101, 114]⟩) .nil = .lit (.int .i64 ((86 : Nat) : Int)) ∧ Maps.has mapV (keyL ⟨#[115, 108, 97, 116, 101, 114]⟩) = true := ⟨by kernel_rfl, by kernel_rfl⟩
theorem mapV_rank : mapV.atKey (keyL ⟨#[114, 97, 110, 107, 101, 100]⟩) .nil = .lit (.int .i64 ((88 : Nat) : Int)) ∧ Maps.has mapV (keyL ⟨#[114, 97, 110, 107, 101, 100]⟩) = true := ⟨by kernel_rfl, by kernel_rfl⟩
theorem mapV_none {s : ByteArray} (h1 : ¬ s = ⟨#[109, 97, 106, 111, 114, 105, 116, 121]⟩) (h2 : ¬ s = ⟨#[109, 101, 100, 105, 97, 110, 115]⟩) (h3 : ¬ s = ⟨#[115, 108, 97, 116, 101, 114]⟩) (h4 : ¬ s = ⟨#[114, 97, 110, 107, 101, 100]⟩) : mapV.atKey (keyL s) .nil = .nil ∧ Maps.has mapV (keyL s) = false := by
  have e1 := key_ne (l := [109, 97, 106, 111, 114, 105, 116, 121]) h1
  have e2 := key_ne (l := [109, 101, 100, 105, 97, 110, 115]) h2
  have e3 := key_ne (l := [115, 108, 97, 116, 101, 114]) h3
  have e4 := key_ne (l := [114, 97, 110, 107, 101, 100]) h4
  rw [mapV_eq]
  constructor
  · simp [DataW.atKey, keyL, List.find?] at e1 e2 e3 e4 ⊢
    simp [e1, e2, e3, e4]
  · simp [Maps.has, keyL] at e1 e2 e3 e4 ⊢
    simp [e1, e2, e3, e4]
end Go.Proofs.YtgebplpbnaeckaaGreatDoor
