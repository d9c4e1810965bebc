/- Leads: plain mathematics, and rows of leads in memory. -/
import Derived.Test.YtbnnblfgpdfmpaaCrI
namespace Go.Proofs.Ytbnnblfgpdfmpaa
open Go.RowKit Go.Joins

def ci (l : List Nat) : List Int := l.map fun (x : Nat) => (x : Int)
theorem ci_len (l : List Nat) : (ci l).length = l.length := List.length_map _
theorem ci_at {l : List Nat} {k : Nat} (hk : k < l.length) : (ci l).getD k 0 = (l.getD k 0 : Nat) := by
  unfold ci
  rw [List.getD_eq_getElem?_getD, List.getElem?_map, List.getD_eq_getElem?_getD, List.getElem?_eq_getElem hk]
  rfl
theorem ci_set (l : List Nat) (k y : Nat) : ci (l.set k y) = (ci l).set k (y : Int) := by unfold ci; rw [List.map_set]
def upd (r : List Nat) (f t : Nat) : List Nat := r.set f (r.getD f 0 ||| 2 ^ t)
/-- the place of the answer of a part to an issue, and that of the other answer -/
def plc (m : Nat × Nat) (j : Nat) : Nat := 2 * j + bitN m.2 j
def opp (m : Nat × Nat) (k : Nat) : Nat := 2 * k + 1 - bitN m.2 k
def condK (m : Nat × Nat) (j k : Nat) : Bool := (j != k) && ((bitN m.1 j == 1) && (bitN m.1 k == 1))
def stK (m : Nat × Nat) (j kk : Nat) (r : List Nat) : List Nat := (List.range kk).foldl (fun r k => if condK m j k = true then upd r (plc m j) (opp m k) else r) r
def stJ (N : Nat) (m : Nat × Nat) (jj : Nat) (r : List Nat) : List Nat := (List.range jj).foldl (fun r j => stK m j N r) r
def stI (N : Nat) (L : List (Nat × Nat)) (ii : Nat) : List Nat := (L.take ii).foldl (fun r m => stJ N m N r) (List.replicate (2 * N) 0)
theorem stK_yes {m : Nat × Nat} {j k : Nat} {r : List Nat} (h : condK m j k = true) : stK m j (k + 1) r = upd (stK m j k r) (plc m j) (opp m k) := by
  unfold stK; rw [List.range_succ, List.foldl_append]; simp [h]
theorem stK_no {m : Nat × Nat} {j k : Nat} {r : List Nat} (h : condK m j k = false) : stK m j (k + 1) r = stK m j k r := by
  unfold stK; rw [List.range_succ, List.foldl_append]; simp [h]
theorem stJ_succ (N : Nat) (m : Nat × Nat) (j : Nat) (r : List Nat) : stJ N m (j + 1) r = stK m j N (stJ N m j r) := by
  unfold stJ; rw [List.range_succ, List.foldl_append]; rfl
theorem stI_succ {N : Nat} {L : List (Nat × Nat)} {i : Nat} (hi : i < L.length) : stI N L (i + 1) = stJ N L[i] N (stI N L i) := by
  unfold stI; rw [List.take_add_one, List.getElem?_eq_getElem hi, List.foldl_append]; rfl
/-- the places of a part's answers -/
def PL (N : Nat) (m : Nat × Nat) : List Nat := ((List.range N).filter fun j => bitN m.1 j == 1).map (plc m)
def prV (P : List Nat) (f vv : Nat) (r : List Nat) : List Nat := (P.take vv).foldl (fun r o => if (f != o) = true then upd r f (o ^^^ 1) else r) r
def prU (P : List Nat) (uu : Nat) (r : List Nat) : List Nat := (P.take uu).foldl (fun r f => prV P f P.length r) r
theorem prV_yes {P : List Nat} {f v : Nat} {r : List Nat} (hv : v < P.length) (h : (f != P[v]) = true) : prV P f (v + 1) r = upd (prV P f v r) f (P[v] ^^^ 1) := by
  unfold prV; rw [List.take_add_one, List.getElem?_eq_getElem hv, List.foldl_append]
  simp only [Option.toList_some, List.foldl_cons, List.foldl_nil]
  rw [if_pos h]
theorem prV_no {P : List Nat} {f v : Nat} {r : List Nat} (hv : v < P.length) (h : (f != P[v]) = false) : prV P f (v + 1) r = prV P f v r := by
  unfold prV; rw [List.take_add_one, List.getElem?_eq_getElem hv, List.foldl_append]
  simp only [Option.toList_some, List.foldl_cons, List.foldl_nil]
  rw [if_neg (by rw [h]; simp)]
theorem prU_succ {P : List Nat} {u : Nat} {r : List Nat} (hu : u < P.length) : prU P (u + 1) r = prV P P[u] P.length (prU P u r) := by
  unfold prU; rw [List.take_add_one, List.getElem?_eq_getElem hu, List.foldl_append]; rfl
theorem foldl_same {α β : Type} {f g : β → α → β} : ∀ (l : List α) (b : β), (∀ b, ∀ a ∈ l, f b a = g b a) → l.foldl f b = l.foldl g b
  | [], _, _ => rfl
  | a :: l, b, h => by rw [List.foldl_cons, List.foldl_cons, h b a (by simp)]; exact foldl_same l _ fun b x hx => h b x (by simp [hx])
theorem foldl_idle {α β : Type} {f : β → α → β} : ∀ (l : List α) (b : β), (∀ b, ∀ a ∈ l, f b a = b) → l.foldl f b = b
  | [], _, _ => rfl
  | a :: l, b, h => by rw [List.foldl_cons, h b a (by simp)]; exact foldl_idle l _ fun b x hx => h b x (by simp [hx])
theorem foldl_inv {α β : Type} {f : β → α → β} (T : β → Prop) : ∀ (l : List α) (b : β), (∀ b, ∀ a ∈ l, T b → T (f b a)) → T b → T (l.foldl f b)
  | [], _, _, hb => hb
  | a :: l, b, h, hb => by rw [List.foldl_cons]; exact foldl_inv T l _ (fun b x hx => h b x (by simp [hx])) (h b a (by simp) hb)
theorem opp_fin : ∀ k : Fin 4, ∀ b : Fin 2, (2 * k.val + b.val) ^^^ 1 = 2 * k.val + 1 - b.val := by decide +kernel
theorem plc_opp (m : Nat × Nat) {k : Nat} (hk : k < 4) : plc m k ^^^ 1 = opp m k := by
  have hb := bitN_le m.2 k
  exact opp_fin ⟨k, hk⟩ ⟨bitN m.2 k, by omega⟩
theorem plc_ne {m : Nat × Nat} {j k : Nat} : (plc m j != plc m k) = (j != k) := by
  have h1 := bitN_le m.2 j
  have h2 := bitN_le m.2 k
  rw [Bool.eq_iff_iff, bne_iff_ne, bne_iff_ne]
  unfold plc
  constructor
  · intro h e
    subst e
    exact h rfl
  · intro h e
    omega
theorem pr_eq {N : Nat} (hN : N ≤ 4) (m : Nat × Nat) (r : List Nat) : prU (PL N m) (PL N m).length r = stJ N m N r := by
  unfold prU stJ
  rw [List.take_length]
  have hP : PL N m = ((List.range N).filter fun j => bitN m.1 j == 1).map (plc m) := rfl
  have hV : ∀ f r, prV (PL N m) f (PL N m).length r = (List.range N).foldl (fun r k => if (bitN m.1 k == 1) = true then (if (f != plc m k) = true then upd r f (plc m k ^^^ 1) else r) else r) r := fun f r => by
    unfold prV
    rw [List.take_length, hP, List.foldl_map, List.foldl_filter]
  rw [hP, List.foldl_map, List.foldl_filter, ← hP]
  refine foldl_same _ _ fun r j hj => ?_
  cases hb : (bitN m.1 j == 1) with
  | false =>
    rw [if_neg (by simp)]
    unfold stK
    refine (foldl_idle _ _ fun r k _ => ?_).symm
    rw [if_neg]
    unfold condK
    rw [hb]
    simp
  | true =>
    rw [if_pos rfl, hV]
    unfold stK
    refine foldl_same _ _ fun r k hk => ?_
    have hk4 : k < 4 := by have := List.mem_range.1 hk; omega
    unfold condK
    rw [plc_ne, plc_opp m hk4, hb]
    cases (bitN m.1 k == 1) <;> cases (j != k) <;> rfl
/-- rows of leads -/
def RB (K : Nat) (r : List Nat) : Prop := r.length = K ∧ ∀ x ∈ r, x < 256
theorem RB.at {K : Nat} {r : List Nat} (h : RB K r) (k : Nat) : r.getD k 0 < 256 := by
  by_cases hk : k < r.length
  · rw [List.getD_eq_getElem?_getD, List.getElem?_eq_getElem hk]
    exact h.2 _ (List.getElem_mem hk)
  · rw [List.getD_eq_getElem?_getD, List.getElem?_eq_none (by omega)]
    decide
theorem RB.set {K : Nat} {r : List Nat} (h : RB K r) {f y : Nat} (hy : y < 256) : RB K (r.set f y) := by
  refine ⟨by rw [List.length_set]; exact h.1, fun x hx => ?_⟩
  rcases List.mem_or_eq_of_mem_set hx with h1 | h1
  · exact h.2 x h1
  · rw [h1]; exact hy
theorem or_256 {a b : Nat} (ha : a < 256) (hb : b < 256) : a ||| b < 256 := Nat.or_lt_two_pow (n := 8) ha hb
theorem pow_256 {t : Nat} (ht : t < 8) : 2 ^ t < 256 := by
  have : 2 ^ t ≤ 2 ^ 7 := Nat.pow_le_pow_right (by omega) (by omega)
  omega
theorem RB.upd {K : Nat} {r : List Nat} (h : RB K r) {f t : Nat} (ht : t < 8) : RB K (upd r f t) := h.set (or_256 (h.at f) (pow_256 ht))
theorem opp_lt (m : Nat × Nat) {N k : Nat} (hk : k < N) : opp m k < 2 * N := by
  have := bitN_le m.2 k
  unfold opp; omega
theorem plc_lt (m : Nat × Nat) {N k : Nat} (hk : k < N) : plc m k < 2 * N := by
  have := bitN_le m.2 k
  unfold plc; omega
theorem RB.stK {K N : Nat} (hN : N ≤ 4) {m : Nat × Nat} {j kk : Nat} (hk : kk ≤ N) {r : List Nat} (h : RB K r) : RB K (stK m j kk r) :=
  foldl_inv (RB K) _ _ (fun r k hkm hr => by
    split
    · exact hr.upd (by have := opp_lt m (N := N) (k := k) (by have := List.mem_range.1 hkm; omega); omega)
    · exact hr) h
theorem RB.stJ {K N : Nat} (hN : N ≤ 4) {m : Nat × Nat} {jj : Nat} {r : List Nat} (h : RB K r) : RB K (stJ N m jj r) :=
  foldl_inv (RB K) _ _ (fun _ _ _ hr => hr.stK hN (Nat.le_refl _)) h
theorem RB.stI {N : Nat} (hN : N ≤ 4) (L : List (Nat × Nat)) (ii : Nat) : RB (2 * N) (stI N L ii) :=
  foldl_inv (RB (2 * N)) _ _ (fun _ _ _ hr => hr.stJ hN) ⟨by simp, fun x hx => by rw [List.eq_of_mem_replicate hx]; omega⟩
/-- one step of following leads -/
def clS (r : List Nat) (k i : Nat) : List Nat := if bitN (r.getD i 0) k = 1 then r.set i (r.getD i 0 ||| r.getD k 0) else r
def clI (k ii : Nat) (r : List Nat) : List Nat := (List.range ii).foldl (fun r i => clS r k i) r
def clK (K kk : Nat) (r : List Nat) : List Nat := (List.range kk).foldl (fun r k => clI k K r) r
theorem clI_succ (k i : Nat) (r : List Nat) : clI k (i + 1) r = clS (clI k i r) k i := by
  unfold clI; rw [List.range_succ, List.foldl_append]; rfl
theorem clK_succ (K k : Nat) (r : List Nat) : clK K (k + 1) r = clI k K (clK K k r) := by
  unfold clK; rw [List.range_succ, List.foldl_append]; rfl
theorem RB.clS {K : Nat} {r : List Nat} (h : RB K r) (k i : Nat) : RB K (clS r k i) := by
  unfold Ytbnnblfgpdfmpaa.clS
  split
  · exact h.set (or_256 (h.at i) (h.at k))
  · exact h
theorem RB.clI {K : Nat} {r : List Nat} (h : RB K r) (k ii : Nat) : RB K (clI k ii r) := foldl_inv (RB K) _ _ (fun _ _ _ hr => hr.clS _ _) h
theorem RB.clK {K : Nat} {r : List Nat} (h : RB K r) (kk : Nat) : RB K (clK K kk r) := foldl_inv (RB K) _ _ (fun _ _ _ hr => hr.clI _ _) h
/-- what LeadsOf answers -/
def ldR (n : Int) (zs : List Int) : List Nat := if vsB n zs = true then clK (2 * n.toNat) (2 * n.toNat) (stI n.toNat (critL n.toNat zs) (critL n.toNat zs).length) else []
theorem ldR_no {n : Int} {zs : List Int} (h : vsB n zs = false) : ldR n zs = [] := by unfold ldR; rw [if_neg (by rw [h]; simp)]
theorem ldR_yes {N : Nat} {zs : List Int} (h : vsB (N : Int) zs = true) : ldR (N : Int) zs = clK (2 * N) (2 * N) (stI N (critL N zs) (critL N zs).length) := by
  unfold ldR; rw [if_pos h, Int.toNat_natCast]

/-- rows of leads in a block, all else as in w2 -/
def LDs (w2 : World) (B0 K : Nat) (r : List Nat) (wr : World) : Prop :=
  wr.ownsRow B0 3 1 (.slice (some ⟨B0, 0, none⟩) K K) K ((ci r).map (Value.int .i64)) ∧ w2.grownBy wr (some B0) ∧ RB K r
theorem LDs.store {w2 wr : World} {B0 K f y : Nat} {r : List Nat} (h : LDs w2 B0 K r wr) (hy : y < 256) : LDs w2 B0 K (r.set f y) (wr.setCell ⟨B0, f, none⟩ (.int .i64 (y : Int))) := by
  refine ⟨?_, gtrans h.2.1 (h.1.stored f _).2, h.2.2.set hy⟩
  rw [ci_set, List.map_set]
  exact (h.1.stored f _).1
theorem LDs.drew {w2 wr : World} {B0 K : Nat} {r : List Nat} (h : LDs w2 B0 K r wr) : LDs w2 B0 K r wr.drew := ⟨h.1, ⟨h.2.1.os, h.2.1.tape, h.2.1.output, h.2.1.size, h.2.1.block⟩, h.2.2⟩
theorem LDs.at {w2 wr : World} {B0 K f : Nat} {r : List Nat} (h : LDs w2 B0 K r wr) (hf : f < K) : wr.cell? ⟨B0, f, none⟩ = some (.int .i64 (r.getD f 0 : Nat)) ∧ wr.frozen? ⟨B0, f, none⟩ = false := by
  have h1 := h.1.cellAt f (by omega)
  have hl : f < r.length := by rw [h.2.2.1]; exact hf
  have e : ((ci r).map (Value.int .i64))[f]? = some (.int .i64 (r.getD f 0 : Nat)) := by
    unfold ci
    rw [List.map_map, List.getElem?_map, List.getElem?_eq_getElem hl, List.getD_eq_getElem?_getD, List.getElem?_eq_getElem hl]
    rfl
  rw [e] at h1
  exact ⟨h1, h.1.frozenAt f⟩
theorem PInts.grown {w w' : World} {a : Option Addr} {ps : List (Int × Int)} {g : Nat} (h : PInts w a ps) (hg : w.grownBy w' (some g)) (hne : ∀ b o s, a = some ⟨b, o, s⟩ → b ≠ g) : PInts w' a ps := fun hz => by
  obtain ⟨b, off, e, hlt, hc⟩ := h hz
  have hb := hne b off none e
  exact ⟨b, off, e, Nat.lt_of_lt_of_le hlt hg.size, fun k hk => ⟨(gcell hg (a := ⟨b, off + k * 2, none⟩) hlt (by simpa using hb)).trans (hc k hk).1, (gcell hg (a := ⟨b, off + k * 2 + 1, none⟩) hlt (by simpa using hb)).trans (hc k hk).2⟩⟩
theorem ownsP_ne {w : World} {base n cap : Nat} {a : Option Addr} {ps : List (Int × Int)} (h : OwnsP w base (.slice a n cap) ps) {g : Nat} (hg : g < base) : ∀ b o s, a = some ⟨b, o, s⟩ → b ≠ g := fun b o s e => by
  have h' : w.ownsRow base 60 2 (.slice a n cap) ps.length (pflat ps) := h
  rcases ownsRow_forms h' with ⟨he, _⟩ | ⟨k, c, he⟩
  · simp only [Value.slice.injEq] at he
    rw [he.1] at e
    cases e
  · simp only [Value.slice.injEq] at he
    have h1 := h'.lt k (by rw [he.1]; rfl)
    rw [he.1] at e
    cases e
    omega
end Go.Proofs.Ytbnnblfgpdfmpaa
