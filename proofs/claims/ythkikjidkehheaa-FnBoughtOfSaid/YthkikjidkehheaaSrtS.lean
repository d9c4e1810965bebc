/- The model's sort of few numbers, and the price of a name. -/
import Derived.Test.YthkikjidkehheaaApart
import Derived.Test.YthkikjidkehheaaLoadM
import Derived.Deep.DeepAppendRoom
import Derived.Deep.RegionHeld3
import Derived.BigQuiet
namespace Go.Proofs.Ythkikjidkehheaa
open Go.RowKit Go.Joins

/-- append, as one step of a region that draws its order -/
theorem step_append_own {P : Program} {ops : Array Oper} {o : Oper} {a : Act} {w : World} {K : Act → World → Prop} {Q : Exit → Act → World → Prop} {E : Prop}
    (hg : o.guard = none) (s x : Operand) (t : TypeId) (ho : o.op = .call { callee := .builtin .append, args := #[s, x], argTypes := #[t, t] })
    (base : Nat) (e : TypeId) (i : TypeInfo) (z : Value) (size bytes : Nat) (ht : P.underlying t = some (.slice e)) (hi : P.info? e = some i) (hz : i.zero = some z)
    (hsize : i.size = size) (hby : i.bytes = bytes) (hzs : z.cells.size = size) (hsz : 0 < size)
    (v : Value) (n : Nat) (xs : List Value) (hs : a.eval s = v) (hown : w.ownsRow base e size v n xs)
    (ad : Addr) (m c : Nat) (news : List Value) (hx : a.eval x = .slice (some ad) m c) (hl : news.length = m * size) (hnews : ∀ j u, news[j]? = some u → w.cell? (ad.add j) = some u) (h1 : ∀ u ∈ news, u.oneCell' = true)
    (h63 : n + m ≤ maxLen) (hbytes : (n + m) * bytes ≤ 140737488355328) (hbase : base ≤ w.heap.size)
    (hK : ∀ v' w', w'.ownsRow base e size v' (n + m) (xs ++ news) → w.grownBy w' v.ownBlock → (v' = .slice none 0 0 ↔ v = .slice none 0 0 ∧ m = 0) → K (a.put o.dst v') w') :
    if Region.wanted o (yielded ops a.tmps) = true then Oper.wp P o a w K Q else E := by
  have hw : Region.wanted o (yielded ops a.tmps) = true := by simp [Region.wanted, hg]
  rw [if_pos hw]
  exact wp_append_own w s x t ho base e i z size bytes ht hi hz hsize hby hzs hsz v n xs hs hown ad m c news hx hl hnews h1 h63 hbytes hbase hK
/-- a number put into its place -/
def insN (v : Nat) : List Nat → List Nat
  | [] => [v]
  | y :: ys => if y ≤ v then y :: insN v ys else v :: y :: ys
def srtN (l : List Nat) : List Nat := l.foldl (fun acc v => insN v acc) []
theorem insN_at {v : Nat} : ∀ (l : List Nat) (k : Nat), k ≤ l.length → (∀ t, t < k → l.getD t 0 ≤ v) → (k = l.length ∨ v < l.getD k 0) → insN v l = l.take k ++ [v] ++ l.drop k
  | [], k, hk, _, _ => by
    obtain rfl : k = 0 := by simpa using hk
    rfl
  | y :: ys, 0, _, _, h => by
    rcases h with h | h
    · simp at h
    · have h' : v < y := by simpa using h
      unfold insN
      rw [if_neg (by omega)]
      rfl
  | y :: ys, k + 1, hk, ha, h => by
    have h0 := ha 0 (by omega)
    have h0' : y ≤ v := by simpa using h0
    unfold insN
    rw [if_pos h0', insN_at ys k (by simpa using hk) (fun t ht => by have := ha (t + 1) (by omega); simpa using this) (by
      rcases h with h | h
      · exact .inl (by simpa using h)
      · exact .inr (by simpa using h))]
    simp
theorem insN_len (v : Nat) : ∀ l : List Nat, (insN v l).length = l.length + 1
  | [] => rfl
  | y :: ys => by
    unfold insN
    split
    · rw [List.length_cons, insN_len v ys, List.length_cons]
    · simp
theorem srt_snoc (l : List Nat) (v : Nat) : srtN (l ++ [v]) = insN v (srtN l) := by unfold srtN; rw [List.foldl_append]; rfl
theorem srt_len : ∀ l : List Nat, (srtN l).length = l.length := by
  intro l
  induction h : l.length generalizing l with
  | zero => obtain rfl := List.eq_nil_of_length_eq_zero h; rfl
  | succ n ih =>
    obtain ⟨ms, x, rfl⟩ : ∃ ms x, l = ms ++ [x] := ⟨l.dropLast, l.getLast (by intro e; subst e; simp at h), (List.dropLast_concat_getLast _).symm⟩
    rw [srt_snoc, insN_len, ih ms (by simpa using h)]
theorem insN_mem {v x : Nat} : ∀ l : List Nat, x ∈ insN v l → x = v ∨ x ∈ l
  | [], h => by simpa [insN] using h
  | y :: ys, h => by
    unfold insN at h
    split at h
    · rcases List.mem_cons.1 h with h | h
      · exact .inr (by simp [h])
      · rcases insN_mem ys h with h | h
        · exact .inl h
        · exact .inr (by simp [h])
    · simpa using h
theorem srt_mem {x : Nat} : ∀ l : List Nat, x ∈ srtN l → x ∈ l := by
  intro l
  induction h : l.length generalizing l with
  | zero => obtain rfl := List.eq_nil_of_length_eq_zero h; exact fun h => h
  | succ n ih =>
    obtain ⟨ms, y, rfl⟩ : ∃ ms y, l = ms ++ [y] := ⟨l.dropLast, l.getLast (by intro e; subst e; simp at h), (List.dropLast_concat_getLast _).symm⟩
    rw [srt_snoc]
    intro hx
    rcases insN_mem _ hx with h1 | h1
    · simp [h1]
    · exact List.mem_append_left _ (ih ms (by simpa using h) h1)
theorem own_some {w : World} {base : Nat} {v : Value} {zs : List Int} (h : Owns w base v zs) (hv : v ≠ .slice none 0 0) :
    ∃ g c, v = .slice (some ⟨g, 0, none⟩) zs.length c ∧ zs.length ≤ c ∧ g < w.heap.size ∧ ∀ i, i < zs.length → w.cell? ⟨g, i, none⟩ = some (.int .i64 (zs.getD i 0)) := by
  have h' : w.ownsRow base 3 1 v zs.length (zs.map (Value.int .i64)) := h
  rcases h'.2 with ⟨h0, _⟩ | ⟨g, c, cur, rfl, hg, hb, h1, h2, h3, h4⟩
  · exact absurd h0 hv
  · refine ⟨g, c, rfl, h1, lt_of_block hb, fun i hi => ?_⟩
    have := h'.cellAt i (by omega)
    rw [List.getElem?_map, List.getElem?_eq_getElem hi, Option.map_some] at this
    rw [getD_lt hi]
    exact this
theorem sub_cells {w : World} {g a : Nat} {zs ys : List Int} (hc : ∀ i, i < zs.length → w.cell? ⟨g, i, none⟩ = some (.int .i64 (zs.getD i 0))) (hy : ∀ j, j < ys.length → a + j < zs.length ∧ zs.getD (a + j) 0 = ys.getD j 0) :
    ∀ j u, (ys.map (Value.int .i64))[j]? = some u → w.cell? ((⟨g, a, none⟩ : Addr).add j) = some u := by
  intro j u hu
  rw [List.getElem?_map] at hu
  by_cases hl : j < ys.length
  · rw [List.getElem?_eq_getElem hl, Option.map_some] at hu
    cases hu
    have h := hy j hl
    have e1 : (⟨g, a, none⟩ : Addr).add j = ⟨g, a + j, none⟩ := by
      unfold Addr.add
      by_cases h : j = 0 <;> simp [h]
    rw [e1, hc _ h.1, h.2, getD_lt hl]
  · rw [List.getElem?_eq_none (by omega)] at hu
    cases hu
theorem one_all (ys : List Int) : ∀ u ∈ ys.map (Value.int .i64), u.oneCell' = true := by
  intro u hu
  obtain ⟨x, _, rfl⟩ := List.mem_map.1 hu
  rfl
theorem nz_take (l : List Nat) (k : Nat) : (nz l).take k = nz (l.take k) := by unfold nz; rw [List.map_take]
theorem nz_drop (l : List Nat) (k : Nat) : (nz l).drop k = nz (l.drop k) := by unfold nz; rw [List.map_drop]
theorem nz_append (l m : List Nat) : nz (l ++ m) = nz l ++ nz m := by unfold nz; rw [List.map_append]

set_option maxHeartbeats 8000000 in
set_option maxRecDepth 100000 in
theorem sorted_any (a : Option Addr) (cap : Nat) (ms : List Nat) (w : World) (hi : Ints w a (nz ms)) (h6 : ms.length ≤ 6) (hb : ∀ i, ms.getD i 0 ≤ 100000) :
    Calls Try.prog 70 #[.slice a ms.length cap] w fun e w' => ∃ v, e = .returned v ∧ Owns w' w.heap.size v (nz (srtN ms)) ∧ Below w.heap.size w w' := by
  obtain ⟨i0, hi0, hz0, hz1, hz2⟩ := info_parts info_int
  have HB := hide hb
  have ho0 : Owns (w.alloc (.cells #[] 3)) w.heap.size (.slice (some ⟨w.heap.size, 0, none⟩) 0 0) [] := World.ownsRow_lit w #[] 0 (Nat.le_refl _) (by simp) rfl
  have BA := bel1 w (.cells #[] 3)
  clear hb
  go_enter Try.func70, Try.ntmps70
  go_wp2_with fail
  go_loopw [3, 4] (fun v x wr => ∃ i : Nat, i ≤ ms.length ∧ x = .int .i64 i ∧ Owns wr w.heap.size v (nz (srtN (ms.take i))) ∧ v ≠ .slice none 0 0 ∧ Below w.heap.size w wr) (fun _ x _ => ms.length - (intOf x).toNat)
  case atStart => exact ⟨0, Nat.zero_le _, rfl, ho0, (by intro e; cases e), BA⟩
  case round =>
    clear ho0 BA
    obtain ⟨i, hil, rfl, own, hv, BR⟩ := hrel
    obtain ⟨wq, rfl⟩ : ∃ wq, wq = wr := ⟨_, rfl⟩
    have hsl : (srtN (ms.take i)).length = i := by rw [srt_len, List.length_take]; omega
    by_cases hlt : i < ms.length
    · have hst : srtN (ms.take (i + 1)) = insN (ms.getD i 0) (srtN (ms.take i)) := by
        rw [List.take_succ_eq_append_getElem hlt, srt_snoc, List.getD_eq_getElem?_getD, List.getElem?_eq_getElem hlt]; rfl
      obtain ⟨so, hso⟩ : ∃ so, so = srtN (ms.take i) := ⟨_, rfl⟩
      rw [← hso] at own hsl hst
      obtain ⟨g, vc, rfl, hcap, hgl, hcells⟩ := own_some own hv
      rw [nz_len, hsl] at hcap hcells hv own ⊢
      obtain ⟨lb, lo, rfl, hlb, hlc⟩ := hi (by rw [nz_len]; omega)
      have hck := hlc i (by rw [nz_len]; exact hlt)
      rw [nz_getD] at hck
      obtain ⟨V, hV⟩ : ∃ V, V = ms.getD i 0 := ⟨_, rfl⟩
      have hV2 : V ≤ 100000 := by rw [hV]; exact HB.out i
      rw [← hV] at hck hst
      have hbo : ∀ t, so.getD t 0 ≤ 100000 := fun t => by
        rcases Nat.lt_or_ge t so.length with h | h
        · have hm : so[t] ∈ srtN (ms.take i) := by rw [← hso]; exact List.getElem_mem h
          obtain ⟨q, hq, e⟩ := List.getElem_of_mem (List.mem_of_mem_take (srt_mem _ hm))
          have h3 := HB.out q
          rw [List.getD_eq_getElem?_getD, List.getElem?_eq_getElem hq, Option.getD_some, e] at h3
          rw [List.getD_eq_getElem?_getD, List.getElem?_eq_getElem h]
          exact h3
        · rw [List.getD_eq_getElem?_getD, List.getElem?_eq_none h]; exact Nat.zero_le _
      have HBO := hide hbo
      have HCE : Hid (∀ t, t < i → wq.cell? ⟨g, t, none⟩ = some (.int .i64 ((so.getD t 0 : Nat) : Int))) := fun t ht => by have := hcells t ht; rw [nz_getD] at this; exact this
      have HCK := hide hck
      have HST := hide hst
      have HSL := hide hsl
      have HOWN := hide own
      clear hbo hcells hck hst hsl hso hV hlc hi hv own
      go_wp2
      go_loopw [5] (fun y wt => ∃ k : Nat, k ≤ i ∧ y = .int .i64 k ∧ (∀ t, t < k → so.getD t 0 ≤ V) ∧ Below wq.heap.size wq wt) (fun y _ => i - (intOf y).toNat)
      case atStart => exact ⟨0, Nat.zero_le _, rfl, fun t ht => by omega, Below.refl _ _⟩
      case round =>
        obtain ⟨k, hk, rfl, hall, BQ⟩ := hrel
        have HALL := hide hall
        have cV := ((BR.trans (BQ.mono BR.size)).cell (p := ⟨lb, lo + i, none⟩) hlb).trans HCK.out
        clear hall
        by_cases hki : k < i
        · have cK := (BQ.cell (p := ⟨g, k, none⟩) hgl).trans (HCE.out k hki)
          have hbk := HBO.out k
          obtain ⟨X, hX⟩ : ∃ X, X = so.getD k 0 := ⟨_, rfl⟩
          rw [← hX] at cK hbk
          have HX := hide hX
          clear hX
          by_cases hle : X ≤ V
          · go_wp2
            go_quiet (fail)
            go_wp2
            go_roundw
            case rel => exact ⟨k + 1, by omega, by go_num, fun t ht => by
              rcases Nat.lt_or_ge t k with h | h
              · exact HALL.out t h
              · obtain rfl : t = k := by omega
                rw [← HX.out]; exact hle, BQ.trans ((belN _ _).mono BQ.size)⟩
            case measure => simp only [intOf]; omega
          · have hXV : V < X := by omega
            go_wp2
            go_quiet (fail)
            have HOR := hide (.inr (by rw [← HX.out]; exact hXV) : k = so.length ∨ V < so.getD k 0)
            obtain ⟨w3, hw3⟩ : ∃ w3, w3 = wr.drewN nq := ⟨_, rfl⟩
            rw [← hw3]
            have BQ3 : Below wq.heap.size wq w3 := by rw [hw3]; exact BQ.trans ((belN _ _).mono BQ.size)
            have BQ' : Below w.heap.size w w3 := BR.trans (BQ3.mono BR.size)
            have hwz : w.heap.size ≤ w3.heap.size := BQ'.size
            have hkv : k ≤ vc := by omega
            have hlb3 : lb < w3.heap.size := Nat.lt_of_lt_of_le hlb hwz
            have hg3 : g < w3.heap.size := Nat.lt_of_lt_of_le hgl BQ3.size
            have HL : Hid (∀ W, Below w3.heap.size w3 W → W.cell? ⟨lb, lo + i, none⟩ = some (.int .i64 (V : Int))) := fun W hb => (hb.cell (p := ⟨lb, lo + i, none⟩) hlb3).trans ((BQ'.cell (p := ⟨lb, lo + i, none⟩) hlb).trans HCK.out)
            have hcl3 : ∀ t, t < (nz so).length → w3.cell? ⟨g, t, none⟩ = some (.int .i64 ((nz so).getD t 0)) := fun t ht => by
              rw [nz_len, HSL.out] at ht
              rw [nz_getD]
              exact (BQ3.cell (p := ⟨g, t, none⟩) hgl).trans (HCE.out t ht)
            have HINS : Hid (nz (srtN (ms.take (i + 1))) = (nz so).take k ++ [(V : Int)] ++ (nz so).drop k) := by
              unfold Hid
              rw [HST.out, insN_at so k (by rw [HSL.out]; omega) HALL.out HOR.out, nz_append, nz_append, nz_take, nz_drop]
              rfl
            have HC : Hid (∀ W, Below w3.heap.size w3 W → ∀ j u, (((nz so).take k).map (Value.int .i64))[j]? = some u → W.cell? ((⟨g, 0, none⟩ : Addr).add j) = some u) := fun W hb => sub_cells (zs := nz so) (fun t ht => (hb.cell (p := ⟨g, t, none⟩) hg3).trans (hcl3 t ht)) (fun j hj => by
              rw [List.length_take, nz_len, HSL.out] at hj
              refine ⟨by rw [nz_len, HSL.out]; omega, ?_⟩
              simp only [List.getD_eq_getElem?_getD, Nat.zero_add, List.getElem?_take]
              rw [if_pos (by omega)])
            have HD : Hid (∀ W, Below w3.heap.size w3 W → ∀ j u, (((nz so).drop k).map (Value.int .i64))[j]? = some u → W.cell? ((⟨g, k, none⟩ : Addr).add j) = some u) := fun W hb => sub_cells (zs := nz so) (fun t ht => (hb.cell (p := ⟨g, t, none⟩) hg3).trans (hcl3 t ht)) (fun j hj => by
              rw [List.length_drop, nz_len, HSL.out] at hj
              refine ⟨by rw [nz_len, HSL.out]; omega, ?_⟩
              simp only [List.getD_eq_getElem?_getD, List.getElem?_drop])
            have HO1 := hide (one_all ((nz so).take k))
            have HO2 := hide (one_all ((nz so).drop k))
            have HA1 : Hid (((nz so).take k).length = k) := by unfold Hid; rw [List.length_take, nz_len, HSL.out]; omega
            have HD1 : Hid (((nz so).drop k).length = i - k) := by unfold Hid; rw [List.length_drop, nz_len, HSL.out]
            obtain ⟨A1, hA⟩ : ∃ A1, (nz so).take k = A1 := ⟨_, rfl⟩
            obtain ⟨D1, hD⟩ : ∃ D1, (nz so).drop k = D1 := ⟨_, rfl⟩
            rw [hA] at HC HO1 HA1 HINS
            rw [hD] at HD HO2 HD1 HINS
            have HO3 : Hid (((w3.alloc (.cells #[.int .i64 (V : Int)] 3)).alloc (.cells #[] 3)).drew.ownsRow w3.heap.size 3 1 (.slice (some ⟨w3.heap.size + 1, 0, none⟩) 0 0) 0 []) := by
              have h := (World.ownsRow_lit (base := w3.heap.size) (e := 3) (size := 1) (w3.alloc (.cells #[.int .i64 (V : Int)] 3)) #[] 0 (by simp) (by simp) rfl).drew
              rwa [show (w3.alloc (.cells #[.int .i64 (V : Int)] 3)).heap.size = w3.heap.size + 1 from by simp] at h
            clear BQ3 BQ BR hcl3 hA hD hw3 cV HALL HOR HCE
            have BQ := BQ'
            clear BQ'
            by_cases hvk : k = vc
            · have hik : i = k := by omega
              subst hik
              have HD0 : Hid (D1.length = 0) := HD1.out.trans (Nat.sub_self _)
              have HDD : Hid (∀ W, Below w3.heap.size w3 W → ∀ j u, (D1.map (Value.int .i64))[j]? = some u → W.cell? ((⟨g, 0, none⟩ : Addr).add j) = some u) := fun W hb j u hu => by rw [List.length_eq_zero_iff.1 HD0.out] at hu; simp at hu
              clear HD HD1
              have HD := HDD
              have HD1 := HD0
              clear HDD HD0
              subst hvk
              go_wp2
              refine wp_region_held_drew (S := (fun W => W.cell? ⟨lb, lo + i, none⟩ = some (.int .i64 (V : Int)))) (by kernel_rfl) ?_ (fun hHeld => ?_)
              · exact HL.out _ (bdrew' (Below.refl _ _))
              refine wpAnyH_take (i := 1) (v := ?vvt1) rfl (by kernel_rfl) (by kernel_rfl) (by kernel_rfl) (fun _ _ _ h => h) (Or.inl ⟨by rfl, ?hyt1⟩) (by assumption) ?restt1
              case hyt1 => (intro w hSw; (try dsimp only at hSw); go_simp; (try with_reducible rfl))
              case restt1 =>
                (try simp only [Act.put, List.setIfInBounds_toArray, List.set_cons_zero, List.set_cons_succ, List.getElem_toArray, List.getElem_cons_zero, List.getElem_cons_succ])
                refine wpAnyH_take (i := 2) (v := ?vvt2) rfl (by kernel_rfl) (by kernel_rfl) (by kernel_rfl) (fun _ _ _ h => h) (Or.inl ⟨by rfl, ?hyt2⟩) (by assumption) ?restt2
                case hyt2 => (intro w hSw; (try dsimp only at hSw); go_simp; (try with_reducible rfl))
                case restt2 =>
                  (try simp only [Act.put, List.setIfInBounds_toArray, List.set_cons_zero, List.set_cons_succ, List.getElem_toArray, List.getElem_cons_zero, List.getElem_cons_succ])
                  refine wpAnyH_take (i := 3) (v := ?vvt3) rfl (by kernel_rfl) (by kernel_rfl) (by kernel_rfl) (fun _ _ _ h => h) (Or.inl ⟨by rfl, ?hyt3⟩) (by assumption) ?restt3
                  case hyt3 => (intro w hSw; (try dsimp only at hSw); go_simp; (try with_reducible rfl))
                  case restt3 =>
                    (try simp only [Act.put, List.setIfInBounds_toArray, List.set_cons_zero, List.set_cons_succ, List.getElem_toArray, List.getElem_cons_zero, List.getElem_cons_succ])
                    refine wpAnyH_take (i := 5) (v := ?vvt4) rfl (by kernel_rfl) (by kernel_rfl) (by kernel_rfl) (fun _ _ _ h => h) (Or.inl ⟨by rfl, ?hyt4⟩) (by assumption) ?restt4
                    case hyt4 => (intro w hSw; (try dsimp only at hSw); go_simp; (try with_reducible rfl))
                    case restt4 =>
                      (try simp only [Act.put, List.setIfInBounds_toArray, List.set_cons_zero, List.set_cons_succ, List.getElem_toArray, List.getElem_cons_zero, List.getElem_cons_succ])
                      refine wpAnyH_take (i := 6) (v := ?vvt5) rfl (by kernel_rfl) (by kernel_rfl) (by kernel_rfl) (fun _ _ _ h => h) (Or.inl ⟨by rfl, ?hyt5⟩) (by assumption) ?restt5
                      case hyt5 => (intro w hSw; (try dsimp only at hSw); go_simp; (try with_reducible rfl))
                      case restt5 =>
                        (try simp only [Act.put, List.setIfInBounds_toArray, List.set_cons_zero, List.set_cons_succ, List.getElem_toArray, List.getElem_cons_zero, List.getElem_cons_succ])
                        refine wpAnyH_take (i := 7) (v := ?vvt6) rfl (by kernel_rfl) (by kernel_rfl) (by kernel_rfl) (fun _ _ _ h => h) (Or.inl ⟨by rfl, ?hyt6⟩) (by assumption) ?restt6
                        case hyt6 => (intro w hSw; (try dsimp only at hSw); go_simp; (try with_reducible rfl))
                        case restt6 =>
                          (try simp only [Act.put, List.setIfInBounds_toArray, List.set_cons_zero, List.set_cons_succ, List.getElem_toArray, List.getElem_cons_zero, List.getElem_cons_succ])
                          refine wpAnyH_take (i := 8) (v := ?vvt7) rfl (by kernel_rfl) (by kernel_rfl) (by kernel_rfl) (fun _ _ _ h => h) (Or.inl ⟨by rfl, ?hyt7⟩) (by assumption) ?restt7
                          case hyt7 => (intro w hSw; (try dsimp only at hSw); go_simp; (try with_reducible rfl))
                          case restt7 =>
                            (try simp only [Act.put, List.setIfInBounds_toArray, List.set_cons_zero, List.set_cons_succ, List.getElem_toArray, List.getElem_cons_zero, List.getElem_cons_succ])
                            refine wpAnyH_take (i := 11) (v := ?vvt8) rfl (by kernel_rfl) (by kernel_rfl) (by kernel_rfl) (fun _ _ _ h => h) (Or.inl ⟨by rfl, ?hyt8⟩) (by assumption) ?restt8
                            case hyt8 => (intro w hSw; (try dsimp only at hSw); go_simp; (try with_reducible rfl))
                            case restt8 =>
                              (try simp only [Act.put, List.setIfInBounds_toArray, List.set_cons_zero, List.set_cons_succ, List.getElem_toArray, List.getElem_cons_zero, List.getElem_cons_succ])
                              refine wpAnyH_take (i := 12) (v := ?vvt9) rfl (by kernel_rfl) (by kernel_rfl) (by kernel_rfl) (fun _ _ _ h => h) (Or.inl ⟨by rfl, ?hyt9⟩) (by assumption) ?restt9
                              case hyt9 => (intro w hSw; (try dsimp only at hSw); go_simp; (try with_reducible rfl))
                              case restt9 =>
                                (try simp only [Act.put, List.setIfInBounds_toArray, List.set_cons_zero, List.set_cons_succ, List.getElem_toArray, List.getElem_cons_zero, List.getElem_cons_succ])
                                refine wpAnyH_take (i := 13) (v := ?vvt10) rfl (by kernel_rfl) (by kernel_rfl) (by kernel_rfl) (fun _ _ _ h => h) (Or.inl ⟨by rfl, ?hyt10⟩) (by assumption) ?restt10
                                case hyt10 => (intro w hSw; (try dsimp only at hSw); go_simp; (try with_reducible rfl))
                                case restt10 =>
                                  (try simp only [Act.put, List.setIfInBounds_toArray, List.set_cons_zero, List.set_cons_succ, List.getElem_toArray, List.getElem_cons_zero, List.getElem_cons_succ])
                                  refine wpAnyH_ready (rs := [0, 9]) (by kernel_rfl) (by simp) ?_
                                  refine (AllReadyH.cons rfl (fun K hK => ?_) (AllReadyH.cons rfl (fun K hK => ?_) AllReadyH.nil))
                                  · go_simp
                                    refine hK.out _ _ ?_ (fun hHeld => ?_)
                                    · exact HL.out _ (bdrew' (bel1 w3 (.cells #[] 3)))
                                    clear hK K
                                    (try simp only [Act.put, List.setIfInBounds_toArray, List.set_cons_zero, List.set_cons_succ, List.getElem_toArray, List.getElem_cons_zero])
                                    refine wpAnyH_ready (rs := [4, 9]) (by kernel_rfl) (by simp) ?_
                                    refine (AllReadyH.cons rfl (fun K hK => ?_) (AllReadyH.cons rfl (fun K hK => ?_) AllReadyH.nil))
                                    · have BW := bdrew' (bel1 w3 (.cells #[] 3))
                                      (refine step_append_own (by rfl) _ _ _ (by rfl) w3.heap.size 3 i0 (.int .i64 0) 1 8 Try.underlying22 hi0 hz0 hz1 hz2 rfl (by decide) _ 0 [] (by rfl) (World.ownsRow_lit w3 #[] 0 (Nat.le_refl _) (by simp) rfl).drew ⟨g, 0, none⟩ i i (A1.map (Value.int .i64)) (by rfl) (by rw [List.length_map, Nat.mul_one]; exact HA1.out) (HC.out _ BW) HO1.out (by unfold maxLen; omega) (by omega) (by first | (simp; done) | (simp; omega)) ?_)
                                      intro v1 W1 own1 grow1 hnil1
                                      rw [List.nil_append, Nat.zero_add] at own1
                                      have B1 := BW.grown grow1 (by first | (simp; done) | (simp; omega)) (fun q hq => by simp [Value.ownBlock] at hq; omega)
                                      have hn1 : v1 ≠ .slice none 0 0 := fun e => by have := (hnil1.1 e).1; cases this
                                      clear BW grow1 hnil1
                                      refine hK.out _ _ ?_ (fun hHeld => ?_)
                                      · exact HL.out _ B1
                                      clear hK K
                                      (try simp only [Act.put, List.setIfInBounds_toArray, List.set_cons_zero, List.set_cons_succ, List.getElem_toArray, List.getElem_cons_zero, List.getElem_cons_succ])
                                      refine wpAnyH_ready (rs := [9]) (by kernel_rfl) (by simp) ?_
                                      refine (AllReadyH.cons rfl (fun K hK => ?_) AllReadyH.nil)
                                      go_simp
                                      refine hK.out _ _ ?_ (fun hHeld => ?_)
                                      · exact HL.out _ (B1.alloc B1.size _)
                                      clear hK K
                                      (try simp only [Act.put, List.setIfInBounds_toArray, List.set_cons_zero, List.set_cons_succ, List.getElem_toArray, List.getElem_cons_zero, List.getElem_cons_succ])
                                      refine wpAnyH_ready (rs := [10]) (by kernel_rfl) (by simp) ?_
                                      refine (AllReadyH.cons rfl (fun K hK => ?_) AllReadyH.nil)
                                      (refine step_append_own (by rfl) _ _ _ (by rfl) w3.heap.size 3 i0 (.int .i64 0) 1 8 Try.underlying22 hi0 hz0 hz1 hz2 rfl (by decide) _ i (A1.map (Value.int .i64)) (by rfl) (own1.alloc _) ⟨W1.heap.size, 0, none⟩ 1 1 [.int .i64 (V : Int)] (by rfl) rfl (World.news_of_block (cs := #[.int .i64 (V : Int)]) (t := 3) (fr := (0, 0)) (heap_alloc_new W1 _)) (by intro u hu; simp at hu; subst hu; rfl) (by unfold maxLen; omega) (by omega) (by simp; have := B1.size; omega) ?_)
                                      intro v2 W2 own2 grow2 hnil2
                                      have B2 := (B1.alloc B1.size _).grown grow2 (by simp; have := B1.size; omega) (fun q hq => (World.ownsRow.lt own1 q hq).1)
                                      have hn2 : v2 ≠ .slice none 0 0 := fun e => hn1 (hnil2.1 e).1
                                      clear grow2 hnil2 own1 B1 hn1
                                      refine hK.out _ _ ?_ (fun hHeld => ?_)
                                      · exact HL.out _ B2
                                      clear hK K
                                      (try simp only [Act.put, List.setIfInBounds_toArray, List.set_cons_zero, List.set_cons_succ, List.getElem_toArray, List.getElem_cons_zero, List.getElem_cons_succ])
                                      refine wpAnyH_ready (rs := [14]) (by kernel_rfl) (by simp) ?_
                                      refine (AllReadyH.cons rfl (fun K hK => ?_) AllReadyH.nil)
                                      (refine step_append_own (by rfl) _ _ _ (by rfl) w3.heap.size 3 i0 (.int .i64 0) 1 8 Try.underlying22 hi0 hz0 hz1 hz2 rfl (by decide) _ (i + 1) (A1.map (Value.int .i64) ++ [.int .i64 (V : Int)]) (by rfl) own2 ⟨g, 0, none⟩ 0 0 (D1.map (Value.int .i64)) (by rfl) (by rw [List.length_map, Nat.mul_one]; exact HD1.out) (HD.out _ B2) HO2.out (by unfold maxLen; omega) (by omega) B2.size ?_)
                                      intro v3 W3 own3 grow3 hnil3
                                      have B3 := hide (B2.grown grow3 B2.size (fun q hq => (World.ownsRow.lt own2 q hq).1))
                                      have hn3 : v3 ≠ .slice none 0 0 := fun e => hn2 (hnil3.1 e).1
                                      have O3 : Hid (Owns W3 w3.heap.size v3 (A1 ++ [(V : Int)] ++ D1)) := by
                                        unfold Hid Owns
                                        rw [List.length_append, List.length_append, HA1.out, HD1.out, List.map_append, List.map_append]
                                        exact own3
                                      clear own3 grow3 hnil3 own2 B2 hn2
                                      refine hK.out _ _ ?_ (fun hHeld => ?_)
                                      · exact HL.out _ B3.out
                                      clear hK K
                                      (try simp only [Act.put, List.setIfInBounds_toArray, List.set_cons_zero, List.set_cons_succ, List.getElem_toArray, List.getElem_cons_zero, List.getElem_cons_succ])
                                      refine wpAnyH_take (i := 15) (v := ?vvt11) rfl (by kernel_rfl) (by kernel_rfl) (by kernel_rfl) (fun _ _ _ h => h) (Or.inl ⟨by rfl, ?hyt11⟩) (by assumption) ?restt11
                                      case hyt11 => (intro w hSw; (try dsimp only at hSw); go_simp; (try with_reducible rfl))
                                      case restt11 =>
                                        (try simp only [Act.put, List.setIfInBounds_toArray, List.set_cons_zero, List.set_cons_succ, List.getElem_toArray, List.getElem_cons_zero, List.getElem_cons_succ])
                                        refine wpAnyH_done (by kernel_rfl) ?_ _
                                        go_wp2
                                        go_roundw
                                        case rel => exact ⟨i + 1, by omega, by go_num, by rw [HINS.out]; exact O3.out.le hwz, hn3, BQ.trans (B3.out.mono hwz)⟩
                                        case measure => simp only [intOf]; omega
                                    · go_simp
                                      refine hK.out _ _ ?_ (fun hHeld => ?_)
                                      · exact HL.out _ (bdrew' (bel2 w3 (.cells #[] 3) (.cells #[.int .i64 (V : Int)] 3)))
                                      clear hK K
                                      (try simp only [Act.put, List.setIfInBounds_toArray, List.set_cons_zero, List.set_cons_succ, List.getElem_toArray, List.getElem_cons_zero, List.getElem_cons_succ])
                                      refine wpAnyH_ready (rs := [4]) (by kernel_rfl) (by simp) ?_
                                      refine (AllReadyH.cons rfl (fun K hK => ?_) AllReadyH.nil)
                                      have BW := bdrew' (bel2 w3 (.cells #[] 3) (.cells #[.int .i64 (V : Int)] 3))
                                      (refine step_append_own (by rfl) _ _ _ (by rfl) w3.heap.size 3 i0 (.int .i64 0) 1 8 Try.underlying22 hi0 hz0 hz1 hz2 rfl (by decide) _ 0 [] (by rfl) ((World.ownsRow_lit w3 #[] 0 (Nat.le_refl _) (by simp) rfl).alloc (.cells #[.int .i64 (V : Int)] 3)).drew ⟨g, 0, none⟩ i i (A1.map (Value.int .i64)) (by rfl) (by rw [List.length_map, Nat.mul_one]; exact HA1.out) (HC.out _ BW) HO1.out (by unfold maxLen; omega) (by omega) (by first | (simp; done) | (simp; omega)) ?_)
                                      intro v1 W1 own1 grow1 hnil1
                                      rw [List.nil_append, Nat.zero_add] at own1
                                      have B1 := BW.grown grow1 (by first | (simp; done) | (simp; omega)) (fun q hq => by simp [Value.ownBlock] at hq; omega)
                                      have hn1 : v1 ≠ .slice none 0 0 := fun e => by have := (hnil1.1 e).1; cases this
                                      have hXb : W1.heap[w3.heap.size + 1]? = some (.cells #[.int .i64 (V : Int)] 3 (0, 0)) := (grow1.block _ (by first | (simp; done) | (simp; omega)) (by simp [Value.ownBlock])).trans (by show ((w3.alloc (.cells #[] 3)).alloc (.cells #[.int .i64 (V : Int)] 3)).heap[w3.heap.size + 1]? = _; have h := heap_alloc_new (w3.alloc (.cells #[] 3)) (.cells #[.int .i64 (V : Int)] 3); simpa using h)
                                      clear BW grow1 hnil1
                                      refine hK.out _ _ ?_ (fun hHeld => ?_)
                                      · exact HL.out _ B1
                                      clear hK K
                                      (try simp only [Act.put, List.setIfInBounds_toArray, List.set_cons_zero, List.set_cons_succ, List.getElem_toArray, List.getElem_cons_zero, List.getElem_cons_succ])
                                      refine wpAnyH_ready (rs := [10]) (by kernel_rfl) (by simp) ?_
                                      refine (AllReadyH.cons rfl (fun K hK => ?_) AllReadyH.nil)
                                      (refine step_append_own (by rfl) _ _ _ (by rfl) w3.heap.size 3 i0 (.int .i64 0) 1 8 Try.underlying22 hi0 hz0 hz1 hz2 rfl (by decide) _ i (A1.map (Value.int .i64)) (by rfl) own1 ⟨w3.heap.size + 1, 0, none⟩ 1 1 [.int .i64 (V : Int)] (by rfl) rfl (World.news_of_block (cs := #[.int .i64 (V : Int)]) (t := 3) (fr := (0, 0)) hXb) (by intro u hu; simp at hu; subst hu; rfl) (by unfold maxLen; omega) (by omega) B1.size ?_)
                                      intro v2 W2 own2 grow2 hnil2
                                      have B2 := (B1).grown grow2 B1.size (fun q hq => (World.ownsRow.lt own1 q hq).1)
                                      have hn2 : v2 ≠ .slice none 0 0 := fun e => hn1 (hnil2.1 e).1
                                      clear grow2 hnil2 own1 B1 hn1 hXb
                                      refine hK.out _ _ ?_ (fun hHeld => ?_)
                                      · exact HL.out _ B2
                                      clear hK K
                                      (try simp only [Act.put, List.setIfInBounds_toArray, List.set_cons_zero, List.set_cons_succ, List.getElem_toArray, List.getElem_cons_zero, List.getElem_cons_succ])
                                      refine wpAnyH_ready (rs := [14]) (by kernel_rfl) (by simp) ?_
                                      refine (AllReadyH.cons rfl (fun K hK => ?_) AllReadyH.nil)
                                      (refine step_append_own (by rfl) _ _ _ (by rfl) w3.heap.size 3 i0 (.int .i64 0) 1 8 Try.underlying22 hi0 hz0 hz1 hz2 rfl (by decide) _ (i + 1) (A1.map (Value.int .i64) ++ [.int .i64 (V : Int)]) (by rfl) own2 ⟨g, 0, none⟩ 0 0 (D1.map (Value.int .i64)) (by rfl) (by rw [List.length_map, Nat.mul_one]; exact HD1.out) (HD.out _ B2) HO2.out (by unfold maxLen; omega) (by omega) B2.size ?_)
                                      intro v3 W3 own3 grow3 hnil3
                                      have B3 := hide (B2.grown grow3 B2.size (fun q hq => (World.ownsRow.lt own2 q hq).1))
                                      have hn3 : v3 ≠ .slice none 0 0 := fun e => hn2 (hnil3.1 e).1
                                      have O3 : Hid (Owns W3 w3.heap.size v3 (A1 ++ [(V : Int)] ++ D1)) := by
                                        unfold Hid Owns
                                        rw [List.length_append, List.length_append, HA1.out, HD1.out, List.map_append, List.map_append]
                                        exact own3
                                      clear own3 grow3 hnil3 own2 B2 hn2
                                      refine hK.out _ _ ?_ (fun hHeld => ?_)
                                      · exact HL.out _ B3.out
                                      clear hK K
                                      (try simp only [Act.put, List.setIfInBounds_toArray, List.set_cons_zero, List.set_cons_succ, List.getElem_toArray, List.getElem_cons_zero, List.getElem_cons_succ])
                                      refine wpAnyH_take (i := 15) (v := ?vvt12) rfl (by kernel_rfl) (by kernel_rfl) (by kernel_rfl) (fun _ _ _ h => h) (Or.inl ⟨by rfl, ?hyt12⟩) (by assumption) ?restt12
                                      case hyt12 => (intro w hSw; (try dsimp only at hSw); go_simp; (try with_reducible rfl))
                                      case restt12 =>
                                        (try simp only [Act.put, List.setIfInBounds_toArray, List.set_cons_zero, List.set_cons_succ, List.getElem_toArray, List.getElem_cons_zero, List.getElem_cons_succ])
                                        refine wpAnyH_done (by kernel_rfl) ?_ _
                                        go_wp2
                                        go_roundw
                                        case rel => exact ⟨i + 1, by omega, by go_num, by rw [HINS.out]; exact O3.out.le hwz, hn3, BQ.trans (B3.out.mono hwz)⟩
                                        case measure => simp only [intOf]; omega
                                  · go_simp
                                    refine hK.out _ _ ?_ (fun hHeld => ?_)
                                    · exact HL.out _ (bdrew' (bel1 w3 (.cells #[.int .i64 (V : Int)] 3)))
                                    clear hK K
                                    (try simp only [Act.put, List.setIfInBounds_toArray, List.set_cons_zero, List.set_cons_succ, List.getElem_toArray, List.getElem_cons_zero, List.getElem_cons_succ])
                                    refine wpAnyH_ready (rs := [0]) (by kernel_rfl) (by simp) ?_
                                    refine (AllReadyH.cons rfl (fun K hK => ?_) AllReadyH.nil)
                                    go_simp
                                    refine hK.out _ _ ?_ (fun hHeld => ?_)
                                    · exact HL.out _ (bdrew' (bel2 w3 (.cells #[.int .i64 (V : Int)] 3) (.cells #[] 3)))
                                    clear hK K
                                    (try simp only [Act.put, List.setIfInBounds_toArray, List.set_cons_zero, List.set_cons_succ, List.getElem_toArray, List.getElem_cons_zero])
                                    refine wpAnyH_ready (rs := [4]) (by kernel_rfl) (by simp) ?_
                                    refine (AllReadyH.cons rfl (fun K hK => ?_) AllReadyH.nil)
                                    have BW := bdrew' (bel2 w3 (.cells #[.int .i64 (V : Int)] 3) (.cells #[] 3))
                                    (refine step_append_own (by rfl) _ _ _ (by rfl) w3.heap.size 3 i0 (.int .i64 0) 1 8 Try.underlying22 hi0 hz0 hz1 hz2 rfl (by decide) _ 0 [] (by rfl) HO3.out ⟨g, 0, none⟩ i i (A1.map (Value.int .i64)) (by rfl) (by rw [List.length_map, Nat.mul_one]; exact HA1.out) (HC.out _ BW) HO1.out (by unfold maxLen; omega) (by omega) (by first | (simp; done) | (simp; omega)) ?_)
                                    intro v1 W1 own1 grow1 hnil1
                                    rw [List.nil_append, Nat.zero_add] at own1
                                    have B1 := BW.grown grow1 (by first | (simp; done) | (simp; omega)) (fun q hq => by simp [Value.ownBlock] at hq; omega)
                                    have hn1 : v1 ≠ .slice none 0 0 := fun e => by have := (hnil1.1 e).1; cases this
                                    have hXb : W1.heap[w3.heap.size]? = some (.cells #[.int .i64 (V : Int)] 3 (0, 0)) := (grow1.block _ (by first | (simp; done) | (simp; omega)) (by simp [Value.ownBlock])).trans (by show ((w3.alloc (.cells #[.int .i64 (V : Int)] 3)).alloc (.cells #[] 3)).heap[w3.heap.size]? = _; exact ((bel1 (w3.alloc (.cells #[.int .i64 (V : Int)] 3)) (.cells #[] 3)).block _ (by first | (simp; done) | (simp; omega))).trans (heap_alloc_new w3 (.cells #[.int .i64 (V : Int)] 3)))
                                    clear BW grow1 hnil1
                                    refine hK.out _ _ ?_ (fun hHeld => ?_)
                                    · exact HL.out _ B1
                                    clear hK K
                                    (try simp only [Act.put, List.setIfInBounds_toArray, List.set_cons_zero, List.set_cons_succ, List.getElem_toArray, List.getElem_cons_zero, List.getElem_cons_succ])
                                    refine wpAnyH_ready (rs := [10]) (by kernel_rfl) (by simp) ?_
                                    refine (AllReadyH.cons rfl (fun K hK => ?_) AllReadyH.nil)
                                    (refine step_append_own (by rfl) _ _ _ (by rfl) w3.heap.size 3 i0 (.int .i64 0) 1 8 Try.underlying22 hi0 hz0 hz1 hz2 rfl (by decide) _ i (A1.map (Value.int .i64)) (by rfl) own1 ⟨w3.heap.size, 0, none⟩ 1 1 [.int .i64 (V : Int)] (by rfl) rfl (World.news_of_block (cs := #[.int .i64 (V : Int)]) (t := 3) (fr := (0, 0)) hXb) (by intro u hu; simp at hu; subst hu; rfl) (by unfold maxLen; omega) (by omega) B1.size ?_)
                                    intro v2 W2 own2 grow2 hnil2
                                    have B2 := (B1).grown grow2 B1.size (fun q hq => (World.ownsRow.lt own1 q hq).1)
                                    have hn2 : v2 ≠ .slice none 0 0 := fun e => hn1 (hnil2.1 e).1
                                    clear grow2 hnil2 own1 B1 hn1 hXb
                                    refine hK.out _ _ ?_ (fun hHeld => ?_)
                                    · exact HL.out _ B2
                                    clear hK K
                                    (try simp only [Act.put, List.setIfInBounds_toArray, List.set_cons_zero, List.set_cons_succ, List.getElem_toArray, List.getElem_cons_zero, List.getElem_cons_succ])
                                    refine wpAnyH_ready (rs := [14]) (by kernel_rfl) (by simp) ?_
                                    refine (AllReadyH.cons rfl (fun K hK => ?_) AllReadyH.nil)
                                    (refine step_append_own (by rfl) _ _ _ (by rfl) w3.heap.size 3 i0 (.int .i64 0) 1 8 Try.underlying22 hi0 hz0 hz1 hz2 rfl (by decide) _ (i + 1) (A1.map (Value.int .i64) ++ [.int .i64 (V : Int)]) (by rfl) own2 ⟨g, 0, none⟩ 0 0 (D1.map (Value.int .i64)) (by rfl) (by rw [List.length_map, Nat.mul_one]; exact HD1.out) (HD.out _ B2) HO2.out (by unfold maxLen; omega) (by omega) B2.size ?_)
                                    intro v3 W3 own3 grow3 hnil3
                                    have B3 := hide (B2.grown grow3 B2.size (fun q hq => (World.ownsRow.lt own2 q hq).1))
                                    have hn3 : v3 ≠ .slice none 0 0 := fun e => hn2 (hnil3.1 e).1
                                    have O3 : Hid (Owns W3 w3.heap.size v3 (A1 ++ [(V : Int)] ++ D1)) := by
                                      unfold Hid Owns
                                      rw [List.length_append, List.length_append, HA1.out, HD1.out, List.map_append, List.map_append]
                                      exact own3
                                    clear own3 grow3 hnil3 own2 B2 hn2
                                    refine hK.out _ _ ?_ (fun hHeld => ?_)
                                    · exact HL.out _ B3.out
                                    clear hK K
                                    (try simp only [Act.put, List.setIfInBounds_toArray, List.set_cons_zero, List.set_cons_succ, List.getElem_toArray, List.getElem_cons_zero, List.getElem_cons_succ])
                                    refine wpAnyH_take (i := 15) (v := ?vvt13) rfl (by kernel_rfl) (by kernel_rfl) (by kernel_rfl) (fun _ _ _ h => h) (Or.inl ⟨by rfl, ?hyt13⟩) (by assumption) ?restt13
                                    case hyt13 => (intro w hSw; (try dsimp only at hSw); go_simp; (try with_reducible rfl))
                                    case restt13 =>
                                      (try simp only [Act.put, List.setIfInBounds_toArray, List.set_cons_zero, List.set_cons_succ, List.getElem_toArray, List.getElem_cons_zero, List.getElem_cons_succ])
                                      refine wpAnyH_done (by kernel_rfl) ?_ _
                                      go_wp2
                                      go_roundw
                                      case rel => exact ⟨i + 1, by omega, by go_num, by rw [HINS.out]; exact O3.out.le hwz, hn3, BQ.trans (B3.out.mono hwz)⟩
                                      case measure => simp only [intOf]; omega
            · have hvk' : ¬ vc = k := fun e => hvk e.symm
              go_wp2
              refine wp_region_held_drew (S := (fun W => W.cell? ⟨lb, lo + i, none⟩ = some (.int .i64 (V : Int)))) (by kernel_rfl) ?_ (fun hHeld => ?_)
              · exact HL.out _ (bdrew' (Below.refl _ _))
              refine wpAnyH_take (i := 1) (v := ?vvt14) rfl (by kernel_rfl) (by kernel_rfl) (by kernel_rfl) (fun _ _ _ h => h) (Or.inl ⟨by rfl, ?hyt14⟩) (by assumption) ?restt14
              case hyt14 => (intro w hSw; (try dsimp only at hSw); go_simp; (try with_reducible rfl))
              case restt14 =>
                (try simp only [Act.put, List.setIfInBounds_toArray, List.set_cons_zero, List.set_cons_succ, List.getElem_toArray, List.getElem_cons_zero, List.getElem_cons_succ])
                refine wpAnyH_take (i := 2) (v := ?vvt15) rfl (by kernel_rfl) (by kernel_rfl) (by kernel_rfl) (fun _ _ _ h => h) (Or.inl ⟨by rfl, ?hyt15⟩) (by assumption) ?restt15
                case hyt15 => (intro w hSw; (try dsimp only at hSw); go_simp; (try with_reducible rfl))
                case restt15 =>
                  (try simp only [Act.put, List.setIfInBounds_toArray, List.set_cons_zero, List.set_cons_succ, List.getElem_toArray, List.getElem_cons_zero, List.getElem_cons_succ])
                  refine wpAnyH_take (i := 3) (v := ?vvt16) rfl (by kernel_rfl) (by kernel_rfl) (by kernel_rfl) (fun _ _ _ h => h) (Or.inl ⟨by rfl, ?hyt16⟩) (by assumption) ?restt16
                  case hyt16 => (intro w hSw; (try dsimp only at hSw); go_simp; (try with_reducible rfl))
                  case restt16 =>
                    (try simp only [Act.put, List.setIfInBounds_toArray, List.set_cons_zero, List.set_cons_succ, List.getElem_toArray, List.getElem_cons_zero, List.getElem_cons_succ])
                    refine wpAnyH_take (i := 5) (v := ?vvt17) rfl (by kernel_rfl) (by kernel_rfl) (by kernel_rfl) (fun _ _ _ h => h) (Or.inl ⟨by rfl, ?hyt17⟩) (by assumption) ?restt17
                    case hyt17 => (intro w hSw; (try dsimp only at hSw); go_simp; (try with_reducible rfl))
                    case restt17 =>
                      (try simp only [Act.put, List.setIfInBounds_toArray, List.set_cons_zero, List.set_cons_succ, List.getElem_toArray, List.getElem_cons_zero, List.getElem_cons_succ])
                      refine wpAnyH_take (i := 6) (v := ?vvt18) rfl (by kernel_rfl) (by kernel_rfl) (by kernel_rfl) (fun _ _ _ h => h) (Or.inl ⟨by rfl, ?hyt18⟩) (by assumption) ?restt18
                      case hyt18 => (intro w hSw; (try dsimp only at hSw); go_simp; (try with_reducible rfl))
                      case restt18 =>
                        (try simp only [Act.put, List.setIfInBounds_toArray, List.set_cons_zero, List.set_cons_succ, List.getElem_toArray, List.getElem_cons_zero, List.getElem_cons_succ])
                        refine wpAnyH_take (i := 7) (v := ?vvt19) rfl (by kernel_rfl) (by kernel_rfl) (by kernel_rfl) (fun _ _ _ h => h) (Or.inl ⟨by rfl, ?hyt19⟩) (by assumption) ?restt19
                        case hyt19 => (intro w hSw; (try dsimp only at hSw); go_simp; (try with_reducible rfl))
                        case restt19 =>
                          (try simp only [Act.put, List.setIfInBounds_toArray, List.set_cons_zero, List.set_cons_succ, List.getElem_toArray, List.getElem_cons_zero, List.getElem_cons_succ])
                          refine wpAnyH_take (i := 8) (v := ?vvt20) rfl (by kernel_rfl) (by kernel_rfl) (by kernel_rfl) (fun _ _ _ h => h) (Or.inl ⟨by rfl, ?hyt20⟩) (by assumption) ?restt20
                          case hyt20 => (intro w hSw; (try dsimp only at hSw); go_simp; (try with_reducible rfl))
                          case restt20 =>
                            (try simp only [Act.put, List.setIfInBounds_toArray, List.set_cons_zero, List.set_cons_succ, List.getElem_toArray, List.getElem_cons_zero, List.getElem_cons_succ])
                            refine wpAnyH_take (i := 11) (v := ?vvt21) rfl (by kernel_rfl) (by kernel_rfl) (by kernel_rfl) (fun _ _ _ h => h) (Or.inl ⟨by rfl, ?hyt21⟩) (by assumption) ?restt21
                            case hyt21 => (intro w hSw; (try dsimp only at hSw); go_simp; (try with_reducible rfl))
                            case restt21 =>
                              (try simp only [Act.put, List.setIfInBounds_toArray, List.set_cons_zero, List.set_cons_succ, List.getElem_toArray, List.getElem_cons_zero, List.getElem_cons_succ])
                              refine wpAnyH_take (i := 12) (v := ?vvt22) rfl (by kernel_rfl) (by kernel_rfl) (by kernel_rfl) (fun _ _ _ h => h) (Or.inl ⟨by rfl, ?hyt22⟩) (by assumption) ?restt22
                              case hyt22 => (intro w hSw; (try dsimp only at hSw); go_simp; (try with_reducible rfl))
                              case restt22 =>
                                (try simp only [Act.put, List.setIfInBounds_toArray, List.set_cons_zero, List.set_cons_succ, List.getElem_toArray, List.getElem_cons_zero, List.getElem_cons_succ])
                                refine wpAnyH_take (i := 13) (v := ?vvt23) rfl (by kernel_rfl) (by kernel_rfl) (by kernel_rfl) (fun _ _ _ h => h) (Or.inl ⟨by rfl, ?hyt23⟩) (by assumption) ?restt23
                                case hyt23 => (intro w hSw; (try dsimp only at hSw); go_simp; (try with_reducible rfl))
                                case restt23 =>
                                  (try simp only [Act.put, List.setIfInBounds_toArray, List.set_cons_zero, List.set_cons_succ, List.getElem_toArray, List.getElem_cons_zero, List.getElem_cons_succ])
                                  refine wpAnyH_ready (rs := [0, 9]) (by kernel_rfl) (by simp) ?_
                                  refine (AllReadyH.cons rfl (fun K hK => ?_) (AllReadyH.cons rfl (fun K hK => ?_) AllReadyH.nil))
                                  · go_simp
                                    refine hK.out _ _ ?_ (fun hHeld => ?_)
                                    · exact HL.out _ (bdrew' (bel1 w3 (.cells #[] 3)))
                                    clear hK K
                                    (try simp only [Act.put, List.setIfInBounds_toArray, List.set_cons_zero, List.set_cons_succ, List.getElem_toArray, List.getElem_cons_zero])
                                    refine wpAnyH_ready (rs := [4, 9]) (by kernel_rfl) (by simp) ?_
                                    refine (AllReadyH.cons rfl (fun K hK => ?_) (AllReadyH.cons rfl (fun K hK => ?_) AllReadyH.nil))
                                    · have BW := bdrew' (bel1 w3 (.cells #[] 3))
                                      (refine step_append_own (by rfl) _ _ _ (by rfl) w3.heap.size 3 i0 (.int .i64 0) 1 8 Try.underlying22 hi0 hz0 hz1 hz2 rfl (by decide) _ 0 [] (by rfl) (World.ownsRow_lit w3 #[] 0 (Nat.le_refl _) (by simp) rfl).drew ⟨g, 0, none⟩ k vc (A1.map (Value.int .i64)) (by rfl) (by rw [List.length_map, Nat.mul_one]; exact HA1.out) (HC.out _ BW) HO1.out (by unfold maxLen; omega) (by omega) (by first | (simp; done) | (simp; omega)) ?_)
                                      intro v1 W1 own1 grow1 hnil1
                                      rw [List.nil_append, Nat.zero_add] at own1
                                      have B1 := BW.grown grow1 (by first | (simp; done) | (simp; omega)) (fun q hq => by simp [Value.ownBlock] at hq; omega)
                                      have hn1 : v1 ≠ .slice none 0 0 := fun e => by have := (hnil1.1 e).1; cases this
                                      clear BW grow1 hnil1
                                      refine hK.out _ _ ?_ (fun hHeld => ?_)
                                      · exact HL.out _ B1
                                      clear hK K
                                      (try simp only [Act.put, List.setIfInBounds_toArray, List.set_cons_zero, List.set_cons_succ, List.getElem_toArray, List.getElem_cons_zero, List.getElem_cons_succ])
                                      refine wpAnyH_ready (rs := [9]) (by kernel_rfl) (by simp) ?_
                                      refine (AllReadyH.cons rfl (fun K hK => ?_) AllReadyH.nil)
                                      go_simp
                                      refine hK.out _ _ ?_ (fun hHeld => ?_)
                                      · exact HL.out _ (B1.alloc B1.size _)
                                      clear hK K
                                      (try simp only [Act.put, List.setIfInBounds_toArray, List.set_cons_zero, List.set_cons_succ, List.getElem_toArray, List.getElem_cons_zero, List.getElem_cons_succ])
                                      refine wpAnyH_ready (rs := [10]) (by kernel_rfl) (by simp) ?_
                                      refine (AllReadyH.cons rfl (fun K hK => ?_) AllReadyH.nil)
                                      (refine step_append_own (by rfl) _ _ _ (by rfl) w3.heap.size 3 i0 (.int .i64 0) 1 8 Try.underlying22 hi0 hz0 hz1 hz2 rfl (by decide) _ k (A1.map (Value.int .i64)) (by rfl) (own1.alloc _) ⟨W1.heap.size, 0, none⟩ 1 1 [.int .i64 (V : Int)] (by rfl) rfl (World.news_of_block (cs := #[.int .i64 (V : Int)]) (t := 3) (fr := (0, 0)) (heap_alloc_new W1 _)) (by intro u hu; simp at hu; subst hu; rfl) (by unfold maxLen; omega) (by omega) (by simp; have := B1.size; omega) ?_)
                                      intro v2 W2 own2 grow2 hnil2
                                      have B2 := (B1.alloc B1.size _).grown grow2 (by simp; have := B1.size; omega) (fun q hq => (World.ownsRow.lt own1 q hq).1)
                                      have hn2 : v2 ≠ .slice none 0 0 := fun e => hn1 (hnil2.1 e).1
                                      clear grow2 hnil2 own1 B1 hn1
                                      refine hK.out _ _ ?_ (fun hHeld => ?_)
                                      · exact HL.out _ B2
                                      clear hK K
                                      (try simp only [Act.put, List.setIfInBounds_toArray, List.set_cons_zero, List.set_cons_succ, List.getElem_toArray, List.getElem_cons_zero, List.getElem_cons_succ])
                                      refine wpAnyH_ready (rs := [14]) (by kernel_rfl) (by simp) ?_
                                      refine (AllReadyH.cons rfl (fun K hK => ?_) AllReadyH.nil)
                                      (refine step_append_own (by rfl) _ _ _ (by rfl) w3.heap.size 3 i0 (.int .i64 0) 1 8 Try.underlying22 hi0 hz0 hz1 hz2 rfl (by decide) _ (k + 1) (A1.map (Value.int .i64) ++ [.int .i64 (V : Int)]) (by rfl) own2 ⟨g, k, none⟩ (i - k) (vc - k) (D1.map (Value.int .i64)) (by rfl) (by rw [List.length_map, Nat.mul_one]; exact HD1.out) (HD.out _ B2) HO2.out (by unfold maxLen; omega) (by omega) B2.size ?_)
                                      intro v3 W3 own3 grow3 hnil3
                                      have B3 := hide (B2.grown grow3 B2.size (fun q hq => (World.ownsRow.lt own2 q hq).1))
                                      have hn3 : v3 ≠ .slice none 0 0 := fun e => hn2 (hnil3.1 e).1
                                      have O3 : Hid (Owns W3 w3.heap.size v3 (A1 ++ [(V : Int)] ++ D1)) := by
                                        unfold Hid Owns
                                        rw [List.length_append, List.length_append, HA1.out, HD1.out, List.map_append, List.map_append]
                                        exact own3
                                      clear own3 grow3 hnil3 own2 B2 hn2
                                      refine hK.out _ _ ?_ (fun hHeld => ?_)
                                      · exact HL.out _ B3.out
                                      clear hK K
                                      (try simp only [Act.put, List.setIfInBounds_toArray, List.set_cons_zero, List.set_cons_succ, List.getElem_toArray, List.getElem_cons_zero, List.getElem_cons_succ])
                                      refine wpAnyH_take (i := 15) (v := ?vvt24) rfl (by kernel_rfl) (by kernel_rfl) (by kernel_rfl) (fun _ _ _ h => h) (Or.inl ⟨by rfl, ?hyt24⟩) (by assumption) ?restt24
                                      case hyt24 => (intro w hSw; (try dsimp only at hSw); go_simp; (try with_reducible rfl))
                                      case restt24 =>
                                        (try simp only [Act.put, List.setIfInBounds_toArray, List.set_cons_zero, List.set_cons_succ, List.getElem_toArray, List.getElem_cons_zero, List.getElem_cons_succ])
                                        refine wpAnyH_done (by kernel_rfl) ?_ _
                                        go_wp2
                                        go_roundw
                                        case rel => exact ⟨i + 1, by omega, by go_num, by rw [HINS.out]; exact O3.out.le hwz, hn3, BQ.trans (B3.out.mono hwz)⟩
                                        case measure => simp only [intOf]; omega
                                    · go_simp
                                      refine hK.out _ _ ?_ (fun hHeld => ?_)
                                      · exact HL.out _ (bdrew' (bel2 w3 (.cells #[] 3) (.cells #[.int .i64 (V : Int)] 3)))
                                      clear hK K
                                      (try simp only [Act.put, List.setIfInBounds_toArray, List.set_cons_zero, List.set_cons_succ, List.getElem_toArray, List.getElem_cons_zero, List.getElem_cons_succ])
                                      refine wpAnyH_ready (rs := [4]) (by kernel_rfl) (by simp) ?_
                                      refine (AllReadyH.cons rfl (fun K hK => ?_) AllReadyH.nil)
                                      have BW := bdrew' (bel2 w3 (.cells #[] 3) (.cells #[.int .i64 (V : Int)] 3))
                                      (refine step_append_own (by rfl) _ _ _ (by rfl) w3.heap.size 3 i0 (.int .i64 0) 1 8 Try.underlying22 hi0 hz0 hz1 hz2 rfl (by decide) _ 0 [] (by rfl) ((World.ownsRow_lit w3 #[] 0 (Nat.le_refl _) (by simp) rfl).alloc (.cells #[.int .i64 (V : Int)] 3)).drew ⟨g, 0, none⟩ k vc (A1.map (Value.int .i64)) (by rfl) (by rw [List.length_map, Nat.mul_one]; exact HA1.out) (HC.out _ BW) HO1.out (by unfold maxLen; omega) (by omega) (by first | (simp; done) | (simp; omega)) ?_)
                                      intro v1 W1 own1 grow1 hnil1
                                      rw [List.nil_append, Nat.zero_add] at own1
                                      have B1 := BW.grown grow1 (by first | (simp; done) | (simp; omega)) (fun q hq => by simp [Value.ownBlock] at hq; omega)
                                      have hn1 : v1 ≠ .slice none 0 0 := fun e => by have := (hnil1.1 e).1; cases this
                                      have hXb : W1.heap[w3.heap.size + 1]? = some (.cells #[.int .i64 (V : Int)] 3 (0, 0)) := (grow1.block _ (by first | (simp; done) | (simp; omega)) (by simp [Value.ownBlock])).trans (by show ((w3.alloc (.cells #[] 3)).alloc (.cells #[.int .i64 (V : Int)] 3)).heap[w3.heap.size + 1]? = _; have h := heap_alloc_new (w3.alloc (.cells #[] 3)) (.cells #[.int .i64 (V : Int)] 3); simpa using h)
                                      clear BW grow1 hnil1
                                      refine hK.out _ _ ?_ (fun hHeld => ?_)
                                      · exact HL.out _ B1
                                      clear hK K
                                      (try simp only [Act.put, List.setIfInBounds_toArray, List.set_cons_zero, List.set_cons_succ, List.getElem_toArray, List.getElem_cons_zero, List.getElem_cons_succ])
                                      refine wpAnyH_ready (rs := [10]) (by kernel_rfl) (by simp) ?_
                                      refine (AllReadyH.cons rfl (fun K hK => ?_) AllReadyH.nil)
                                      (refine step_append_own (by rfl) _ _ _ (by rfl) w3.heap.size 3 i0 (.int .i64 0) 1 8 Try.underlying22 hi0 hz0 hz1 hz2 rfl (by decide) _ k (A1.map (Value.int .i64)) (by rfl) own1 ⟨w3.heap.size + 1, 0, none⟩ 1 1 [.int .i64 (V : Int)] (by rfl) rfl (World.news_of_block (cs := #[.int .i64 (V : Int)]) (t := 3) (fr := (0, 0)) hXb) (by intro u hu; simp at hu; subst hu; rfl) (by unfold maxLen; omega) (by omega) B1.size ?_)
                                      intro v2 W2 own2 grow2 hnil2
                                      have B2 := (B1).grown grow2 B1.size (fun q hq => (World.ownsRow.lt own1 q hq).1)
                                      have hn2 : v2 ≠ .slice none 0 0 := fun e => hn1 (hnil2.1 e).1
                                      clear grow2 hnil2 own1 B1 hn1 hXb
                                      refine hK.out _ _ ?_ (fun hHeld => ?_)
                                      · exact HL.out _ B2
                                      clear hK K
                                      (try simp only [Act.put, List.setIfInBounds_toArray, List.set_cons_zero, List.set_cons_succ, List.getElem_toArray, List.getElem_cons_zero, List.getElem_cons_succ])
                                      refine wpAnyH_ready (rs := [14]) (by kernel_rfl) (by simp) ?_
                                      refine (AllReadyH.cons rfl (fun K hK => ?_) AllReadyH.nil)
                                      (refine step_append_own (by rfl) _ _ _ (by rfl) w3.heap.size 3 i0 (.int .i64 0) 1 8 Try.underlying22 hi0 hz0 hz1 hz2 rfl (by decide) _ (k + 1) (A1.map (Value.int .i64) ++ [.int .i64 (V : Int)]) (by rfl) own2 ⟨g, k, none⟩ (i - k) (vc - k) (D1.map (Value.int .i64)) (by rfl) (by rw [List.length_map, Nat.mul_one]; exact HD1.out) (HD.out _ B2) HO2.out (by unfold maxLen; omega) (by omega) B2.size ?_)
                                      intro v3 W3 own3 grow3 hnil3
                                      have B3 := hide (B2.grown grow3 B2.size (fun q hq => (World.ownsRow.lt own2 q hq).1))
                                      have hn3 : v3 ≠ .slice none 0 0 := fun e => hn2 (hnil3.1 e).1
                                      have O3 : Hid (Owns W3 w3.heap.size v3 (A1 ++ [(V : Int)] ++ D1)) := by
                                        unfold Hid Owns
                                        rw [List.length_append, List.length_append, HA1.out, HD1.out, List.map_append, List.map_append]
                                        exact own3
                                      clear own3 grow3 hnil3 own2 B2 hn2
                                      refine hK.out _ _ ?_ (fun hHeld => ?_)
                                      · exact HL.out _ B3.out
                                      clear hK K
                                      (try simp only [Act.put, List.setIfInBounds_toArray, List.set_cons_zero, List.set_cons_succ, List.getElem_toArray, List.getElem_cons_zero, List.getElem_cons_succ])
                                      refine wpAnyH_take (i := 15) (v := ?vvt25) rfl (by kernel_rfl) (by kernel_rfl) (by kernel_rfl) (fun _ _ _ h => h) (Or.inl ⟨by rfl, ?hyt25⟩) (by assumption) ?restt25
                                      case hyt25 => (intro w hSw; (try dsimp only at hSw); go_simp; (try with_reducible rfl))
                                      case restt25 =>
                                        (try simp only [Act.put, List.setIfInBounds_toArray, List.set_cons_zero, List.set_cons_succ, List.getElem_toArray, List.getElem_cons_zero, List.getElem_cons_succ])
                                        refine wpAnyH_done (by kernel_rfl) ?_ _
                                        go_wp2
                                        go_roundw
                                        case rel => exact ⟨i + 1, by omega, by go_num, by rw [HINS.out]; exact O3.out.le hwz, hn3, BQ.trans (B3.out.mono hwz)⟩
                                        case measure => simp only [intOf]; omega
                                  · go_simp
                                    refine hK.out _ _ ?_ (fun hHeld => ?_)
                                    · exact HL.out _ (bdrew' (bel1 w3 (.cells #[.int .i64 (V : Int)] 3)))
                                    clear hK K
                                    (try simp only [Act.put, List.setIfInBounds_toArray, List.set_cons_zero, List.set_cons_succ, List.getElem_toArray, List.getElem_cons_zero, List.getElem_cons_succ])
                                    refine wpAnyH_ready (rs := [0]) (by kernel_rfl) (by simp) ?_
                                    refine (AllReadyH.cons rfl (fun K hK => ?_) AllReadyH.nil)
                                    go_simp
                                    refine hK.out _ _ ?_ (fun hHeld => ?_)
                                    · exact HL.out _ (bdrew' (bel2 w3 (.cells #[.int .i64 (V : Int)] 3) (.cells #[] 3)))
                                    clear hK K
                                    (try simp only [Act.put, List.setIfInBounds_toArray, List.set_cons_zero, List.set_cons_succ, List.getElem_toArray, List.getElem_cons_zero])
                                    refine wpAnyH_ready (rs := [4]) (by kernel_rfl) (by simp) ?_
                                    refine (AllReadyH.cons rfl (fun K hK => ?_) AllReadyH.nil)
                                    have BW := bdrew' (bel2 w3 (.cells #[.int .i64 (V : Int)] 3) (.cells #[] 3))
                                    (refine step_append_own (by rfl) _ _ _ (by rfl) w3.heap.size 3 i0 (.int .i64 0) 1 8 Try.underlying22 hi0 hz0 hz1 hz2 rfl (by decide) _ 0 [] (by rfl) HO3.out ⟨g, 0, none⟩ k vc (A1.map (Value.int .i64)) (by rfl) (by rw [List.length_map, Nat.mul_one]; exact HA1.out) (HC.out _ BW) HO1.out (by unfold maxLen; omega) (by omega) (by first | (simp; done) | (simp; omega)) ?_)
                                    intro v1 W1 own1 grow1 hnil1
                                    rw [List.nil_append, Nat.zero_add] at own1
                                    have B1 := BW.grown grow1 (by first | (simp; done) | (simp; omega)) (fun q hq => by simp [Value.ownBlock] at hq; omega)
                                    have hn1 : v1 ≠ .slice none 0 0 := fun e => by have := (hnil1.1 e).1; cases this
                                    have hXb : W1.heap[w3.heap.size]? = some (.cells #[.int .i64 (V : Int)] 3 (0, 0)) := (grow1.block _ (by first | (simp; done) | (simp; omega)) (by simp [Value.ownBlock])).trans (by show ((w3.alloc (.cells #[.int .i64 (V : Int)] 3)).alloc (.cells #[] 3)).heap[w3.heap.size]? = _; exact ((bel1 (w3.alloc (.cells #[.int .i64 (V : Int)] 3)) (.cells #[] 3)).block _ (by first | (simp; done) | (simp; omega))).trans (heap_alloc_new w3 (.cells #[.int .i64 (V : Int)] 3)))
                                    clear BW grow1 hnil1
                                    refine hK.out _ _ ?_ (fun hHeld => ?_)
                                    · exact HL.out _ B1
                                    clear hK K
                                    (try simp only [Act.put, List.setIfInBounds_toArray, List.set_cons_zero, List.set_cons_succ, List.getElem_toArray, List.getElem_cons_zero, List.getElem_cons_succ])
                                    refine wpAnyH_ready (rs := [10]) (by kernel_rfl) (by simp) ?_
                                    refine (AllReadyH.cons rfl (fun K hK => ?_) AllReadyH.nil)
                                    (refine step_append_own (by rfl) _ _ _ (by rfl) w3.heap.size 3 i0 (.int .i64 0) 1 8 Try.underlying22 hi0 hz0 hz1 hz2 rfl (by decide) _ k (A1.map (Value.int .i64)) (by rfl) own1 ⟨w3.heap.size, 0, none⟩ 1 1 [.int .i64 (V : Int)] (by rfl) rfl (World.news_of_block (cs := #[.int .i64 (V : Int)]) (t := 3) (fr := (0, 0)) hXb) (by intro u hu; simp at hu; subst hu; rfl) (by unfold maxLen; omega) (by omega) B1.size ?_)
                                    intro v2 W2 own2 grow2 hnil2
                                    have B2 := (B1).grown grow2 B1.size (fun q hq => (World.ownsRow.lt own1 q hq).1)
                                    have hn2 : v2 ≠ .slice none 0 0 := fun e => hn1 (hnil2.1 e).1
                                    clear grow2 hnil2 own1 B1 hn1 hXb
                                    refine hK.out _ _ ?_ (fun hHeld => ?_)
                                    · exact HL.out _ B2
                                    clear hK K
                                    (try simp only [Act.put, List.setIfInBounds_toArray, List.set_cons_zero, List.set_cons_succ, List.getElem_toArray, List.getElem_cons_zero, List.getElem_cons_succ])
                                    refine wpAnyH_ready (rs := [14]) (by kernel_rfl) (by simp) ?_
                                    refine (AllReadyH.cons rfl (fun K hK => ?_) AllReadyH.nil)
                                    (refine step_append_own (by rfl) _ _ _ (by rfl) w3.heap.size 3 i0 (.int .i64 0) 1 8 Try.underlying22 hi0 hz0 hz1 hz2 rfl (by decide) _ (k + 1) (A1.map (Value.int .i64) ++ [.int .i64 (V : Int)]) (by rfl) own2 ⟨g, k, none⟩ (i - k) (vc - k) (D1.map (Value.int .i64)) (by rfl) (by rw [List.length_map, Nat.mul_one]; exact HD1.out) (HD.out _ B2) HO2.out (by unfold maxLen; omega) (by omega) B2.size ?_)
                                    intro v3 W3 own3 grow3 hnil3
                                    have B3 := hide (B2.grown grow3 B2.size (fun q hq => (World.ownsRow.lt own2 q hq).1))
                                    have hn3 : v3 ≠ .slice none 0 0 := fun e => hn2 (hnil3.1 e).1
                                    have O3 : Hid (Owns W3 w3.heap.size v3 (A1 ++ [(V : Int)] ++ D1)) := by
                                      unfold Hid Owns
                                      rw [List.length_append, List.length_append, HA1.out, HD1.out, List.map_append, List.map_append]
                                      exact own3
                                    clear own3 grow3 hnil3 own2 B2 hn2
                                    refine hK.out _ _ ?_ (fun hHeld => ?_)
                                    · exact HL.out _ B3.out
                                    clear hK K
                                    (try simp only [Act.put, List.setIfInBounds_toArray, List.set_cons_zero, List.set_cons_succ, List.getElem_toArray, List.getElem_cons_zero, List.getElem_cons_succ])
                                    refine wpAnyH_take (i := 15) (v := ?vvt26) rfl (by kernel_rfl) (by kernel_rfl) (by kernel_rfl) (fun _ _ _ h => h) (Or.inl ⟨by rfl, ?hyt26⟩) (by assumption) ?restt26
                                    case hyt26 => (intro w hSw; (try dsimp only at hSw); go_simp; (try with_reducible rfl))
                                    case restt26 =>
                                      (try simp only [Act.put, List.setIfInBounds_toArray, List.set_cons_zero, List.set_cons_succ, List.getElem_toArray, List.getElem_cons_zero, List.getElem_cons_succ])
                                      refine wpAnyH_done (by kernel_rfl) ?_ _
                                      go_wp2
                                      go_roundw
                                      case rel => exact ⟨i + 1, by omega, by go_num, by rw [HINS.out]; exact O3.out.le hwz, hn3, BQ.trans (B3.out.mono hwz)⟩
                                      case measure => simp only [intOf]; omega
        · obtain rfl : i = k := by omega
          go_wp2
          go_quiet (fail)
          have HOR := hide (.inl HSL.out.symm : i = so.length ∨ V < so.getD i 0)
          obtain ⟨w3, hw3⟩ : ∃ w3, w3 = wr.drewN nq := ⟨_, rfl⟩
          rw [← hw3]
          have BQ3 : Below wq.heap.size wq w3 := by rw [hw3]; exact BQ.trans ((belN _ _).mono BQ.size)
          have BQ' : Below w.heap.size w w3 := BR.trans (BQ3.mono BR.size)
          have hwz : w.heap.size ≤ w3.heap.size := BQ'.size
          have hkv : i ≤ vc := by omega
          have hlb3 : lb < w3.heap.size := Nat.lt_of_lt_of_le hlb hwz
          have hg3 : g < w3.heap.size := Nat.lt_of_lt_of_le hgl BQ3.size
          have HL : Hid (∀ W, Below w3.heap.size w3 W → W.cell? ⟨lb, lo + i, none⟩ = some (.int .i64 (V : Int))) := fun W hb => (hb.cell (p := ⟨lb, lo + i, none⟩) hlb3).trans ((BQ'.cell (p := ⟨lb, lo + i, none⟩) hlb).trans HCK.out)
          have hcl3 : ∀ t, t < (nz so).length → w3.cell? ⟨g, t, none⟩ = some (.int .i64 ((nz so).getD t 0)) := fun t ht => by
            rw [nz_len, HSL.out] at ht
            rw [nz_getD]
            exact (BQ3.cell (p := ⟨g, t, none⟩) hgl).trans (HCE.out t ht)
          have HINS : Hid (nz (srtN (ms.take (i + 1))) = (nz so).take i ++ [(V : Int)] ++ (nz so).drop i) := by
            unfold Hid
            rw [HST.out, insN_at so i (by rw [HSL.out]; omega) HALL.out HOR.out, nz_append, nz_append, nz_take, nz_drop]
            rfl
          have HC : Hid (∀ W, Below w3.heap.size w3 W → ∀ j u, (((nz so).take i).map (Value.int .i64))[j]? = some u → W.cell? ((⟨g, 0, none⟩ : Addr).add j) = some u) := fun W hb => sub_cells (zs := nz so) (fun t ht => (hb.cell (p := ⟨g, t, none⟩) hg3).trans (hcl3 t ht)) (fun j hj => by
            rw [List.length_take, nz_len, HSL.out] at hj
            refine ⟨by rw [nz_len, HSL.out]; omega, ?_⟩
            simp only [List.getD_eq_getElem?_getD, Nat.zero_add, List.getElem?_take]
            rw [if_pos (by omega)])
          have HD : Hid (∀ W, Below w3.heap.size w3 W → ∀ j u, (((nz so).drop i).map (Value.int .i64))[j]? = some u → W.cell? ((⟨g, i, none⟩ : Addr).add j) = some u) := fun W hb => sub_cells (zs := nz so) (fun t ht => (hb.cell (p := ⟨g, t, none⟩) hg3).trans (hcl3 t ht)) (fun j hj => by
            rw [List.length_drop, nz_len, HSL.out] at hj
            refine ⟨by rw [nz_len, HSL.out]; omega, ?_⟩
            simp only [List.getD_eq_getElem?_getD, List.getElem?_drop])
          have HO1 := hide (one_all ((nz so).take i))
          have HO2 := hide (one_all ((nz so).drop i))
          have HA1 : Hid (((nz so).take i).length = i) := by unfold Hid; rw [List.length_take, nz_len, HSL.out]; omega
          have HD1 : Hid (((nz so).drop i).length = i - i) := by unfold Hid; rw [List.length_drop, nz_len, HSL.out]
          obtain ⟨A1, hA⟩ : ∃ A1, (nz so).take i = A1 := ⟨_, rfl⟩
          obtain ⟨D1, hD⟩ : ∃ D1, (nz so).drop i = D1 := ⟨_, rfl⟩
          rw [hA] at HC HO1 HA1 HINS
          rw [hD] at HD HO2 HD1 HINS
          have HO3 : Hid (((w3.alloc (.cells #[.int .i64 (V : Int)] 3)).alloc (.cells #[] 3)).drew.ownsRow w3.heap.size 3 1 (.slice (some ⟨w3.heap.size + 1, 0, none⟩) 0 0) 0 []) := by
            have h := (World.ownsRow_lit (base := w3.heap.size) (e := 3) (size := 1) (w3.alloc (.cells #[.int .i64 (V : Int)] 3)) #[] 0 (by simp) (by simp) rfl).drew
            rwa [show (w3.alloc (.cells #[.int .i64 (V : Int)] 3)).heap.size = w3.heap.size + 1 from by simp] at h
          clear BQ3 BQ BR hcl3 hA hD hw3 cV HALL HOR HCE
          have BQ := BQ'
          clear BQ'
          by_cases hvk : i = vc
          · have HD0 : Hid (D1.length = 0) := HD1.out.trans (Nat.sub_self _)
            have HDD : Hid (∀ W, Below w3.heap.size w3 W → ∀ j u, (D1.map (Value.int .i64))[j]? = some u → W.cell? ((⟨g, 0, none⟩ : Addr).add j) = some u) := fun W hb j u hu => by rw [List.length_eq_zero_iff.1 HD0.out] at hu; simp at hu
            clear HD HD1
            have HD := HDD
            have HD1 := HD0
            clear HDD HD0
            subst hvk
            go_wp2
            refine wp_region_held_drew (S := (fun W => W.cell? ⟨lb, lo + i, none⟩ = some (.int .i64 (V : Int)))) (by kernel_rfl) ?_ (fun hHeld => ?_)
            · exact HL.out _ (bdrew' (Below.refl _ _))
            refine wpAnyH_take (i := 1) (v := ?vvt27) rfl (by kernel_rfl) (by kernel_rfl) (by kernel_rfl) (fun _ _ _ h => h) (Or.inl ⟨by rfl, ?hyt27⟩) (by assumption) ?restt27
            case hyt27 => (intro w hSw; (try dsimp only at hSw); go_simp; (try with_reducible rfl))
            case restt27 =>
              (try simp only [Act.put, List.setIfInBounds_toArray, List.set_cons_zero, List.set_cons_succ, List.getElem_toArray, List.getElem_cons_zero, List.getElem_cons_succ])
              refine wpAnyH_take (i := 2) (v := ?vvt28) rfl (by kernel_rfl) (by kernel_rfl) (by kernel_rfl) (fun _ _ _ h => h) (Or.inl ⟨by rfl, ?hyt28⟩) (by assumption) ?restt28
              case hyt28 => (intro w hSw; (try dsimp only at hSw); go_simp; (try with_reducible rfl))
              case restt28 =>
                (try simp only [Act.put, List.setIfInBounds_toArray, List.set_cons_zero, List.set_cons_succ, List.getElem_toArray, List.getElem_cons_zero, List.getElem_cons_succ])
                refine wpAnyH_take (i := 3) (v := ?vvt29) rfl (by kernel_rfl) (by kernel_rfl) (by kernel_rfl) (fun _ _ _ h => h) (Or.inl ⟨by rfl, ?hyt29⟩) (by assumption) ?restt29
                case hyt29 => (intro w hSw; (try dsimp only at hSw); go_simp; (try with_reducible rfl))
                case restt29 =>
                  (try simp only [Act.put, List.setIfInBounds_toArray, List.set_cons_zero, List.set_cons_succ, List.getElem_toArray, List.getElem_cons_zero, List.getElem_cons_succ])
                  refine wpAnyH_take (i := 5) (v := ?vvt30) rfl (by kernel_rfl) (by kernel_rfl) (by kernel_rfl) (fun _ _ _ h => h) (Or.inl ⟨by rfl, ?hyt30⟩) (by assumption) ?restt30
                  case hyt30 => (intro w hSw; (try dsimp only at hSw); go_simp; (try with_reducible rfl))
                  case restt30 =>
                    (try simp only [Act.put, List.setIfInBounds_toArray, List.set_cons_zero, List.set_cons_succ, List.getElem_toArray, List.getElem_cons_zero, List.getElem_cons_succ])
                    refine wpAnyH_take (i := 6) (v := ?vvt31) rfl (by kernel_rfl) (by kernel_rfl) (by kernel_rfl) (fun _ _ _ h => h) (Or.inl ⟨by rfl, ?hyt31⟩) (by assumption) ?restt31
                    case hyt31 => (intro w hSw; (try dsimp only at hSw); go_simp; (try with_reducible rfl))
                    case restt31 =>
                      (try simp only [Act.put, List.setIfInBounds_toArray, List.set_cons_zero, List.set_cons_succ, List.getElem_toArray, List.getElem_cons_zero, List.getElem_cons_succ])
                      refine wpAnyH_take (i := 7) (v := ?vvt32) rfl (by kernel_rfl) (by kernel_rfl) (by kernel_rfl) (fun _ _ _ h => h) (Or.inl ⟨by rfl, ?hyt32⟩) (by assumption) ?restt32
                      case hyt32 => (intro w hSw; (try dsimp only at hSw); go_simp; (try with_reducible rfl))
                      case restt32 =>
                        (try simp only [Act.put, List.setIfInBounds_toArray, List.set_cons_zero, List.set_cons_succ, List.getElem_toArray, List.getElem_cons_zero, List.getElem_cons_succ])
                        refine wpAnyH_take (i := 8) (v := ?vvt33) rfl (by kernel_rfl) (by kernel_rfl) (by kernel_rfl) (fun _ _ _ h => h) (Or.inl ⟨by rfl, ?hyt33⟩) (by assumption) ?restt33
                        case hyt33 => (intro w hSw; (try dsimp only at hSw); go_simp; (try with_reducible rfl))
                        case restt33 =>
                          (try simp only [Act.put, List.setIfInBounds_toArray, List.set_cons_zero, List.set_cons_succ, List.getElem_toArray, List.getElem_cons_zero, List.getElem_cons_succ])
                          refine wpAnyH_take (i := 11) (v := ?vvt34) rfl (by kernel_rfl) (by kernel_rfl) (by kernel_rfl) (fun _ _ _ h => h) (Or.inl ⟨by rfl, ?hyt34⟩) (by assumption) ?restt34
                          case hyt34 => (intro w hSw; (try dsimp only at hSw); go_simp; (try with_reducible rfl))
                          case restt34 =>
                            (try simp only [Act.put, List.setIfInBounds_toArray, List.set_cons_zero, List.set_cons_succ, List.getElem_toArray, List.getElem_cons_zero, List.getElem_cons_succ])
                            refine wpAnyH_take (i := 12) (v := ?vvt35) rfl (by kernel_rfl) (by kernel_rfl) (by kernel_rfl) (fun _ _ _ h => h) (Or.inl ⟨by rfl, ?hyt35⟩) (by assumption) ?restt35
                            case hyt35 => (intro w hSw; (try dsimp only at hSw); go_simp; (try with_reducible rfl))
                            case restt35 =>
                              (try simp only [Act.put, List.setIfInBounds_toArray, List.set_cons_zero, List.set_cons_succ, List.getElem_toArray, List.getElem_cons_zero, List.getElem_cons_succ])
                              refine wpAnyH_take (i := 13) (v := ?vvt36) rfl (by kernel_rfl) (by kernel_rfl) (by kernel_rfl) (fun _ _ _ h => h) (Or.inl ⟨by rfl, ?hyt36⟩) (by assumption) ?restt36
                              case hyt36 => (intro w hSw; (try dsimp only at hSw); go_simp; (try with_reducible rfl))
                              case restt36 =>
                                (try simp only [Act.put, List.setIfInBounds_toArray, List.set_cons_zero, List.set_cons_succ, List.getElem_toArray, List.getElem_cons_zero, List.getElem_cons_succ])
                                refine wpAnyH_ready (rs := [0, 9]) (by kernel_rfl) (by simp) ?_
                                refine (AllReadyH.cons rfl (fun K hK => ?_) (AllReadyH.cons rfl (fun K hK => ?_) AllReadyH.nil))
                                · go_simp
                                  refine hK.out _ _ ?_ (fun hHeld => ?_)
                                  · exact HL.out _ (bdrew' (bel1 w3 (.cells #[] 3)))
                                  clear hK K
                                  (try simp only [Act.put, List.setIfInBounds_toArray, List.set_cons_zero, List.set_cons_succ, List.getElem_toArray, List.getElem_cons_zero])
                                  refine wpAnyH_ready (rs := [4, 9]) (by kernel_rfl) (by simp) ?_
                                  refine (AllReadyH.cons rfl (fun K hK => ?_) (AllReadyH.cons rfl (fun K hK => ?_) AllReadyH.nil))
                                  · have BW := bdrew' (bel1 w3 (.cells #[] 3))
                                    (refine step_append_own (by rfl) _ _ _ (by rfl) w3.heap.size 3 i0 (.int .i64 0) 1 8 Try.underlying22 hi0 hz0 hz1 hz2 rfl (by decide) _ 0 [] (by rfl) (World.ownsRow_lit w3 #[] 0 (Nat.le_refl _) (by simp) rfl).drew ⟨g, 0, none⟩ i i (A1.map (Value.int .i64)) (by rfl) (by rw [List.length_map, Nat.mul_one]; exact HA1.out) (HC.out _ BW) HO1.out (by unfold maxLen; omega) (by omega) (by first | (simp; done) | (simp; omega)) ?_)
                                    intro v1 W1 own1 grow1 hnil1
                                    rw [List.nil_append, Nat.zero_add] at own1
                                    have B1 := BW.grown grow1 (by first | (simp; done) | (simp; omega)) (fun q hq => by simp [Value.ownBlock] at hq; omega)
                                    have hn1 : v1 ≠ .slice none 0 0 := fun e => by have := (hnil1.1 e).1; cases this
                                    clear BW grow1 hnil1
                                    refine hK.out _ _ ?_ (fun hHeld => ?_)
                                    · exact HL.out _ B1
                                    clear hK K
                                    (try simp only [Act.put, List.setIfInBounds_toArray, List.set_cons_zero, List.set_cons_succ, List.getElem_toArray, List.getElem_cons_zero, List.getElem_cons_succ])
                                    refine wpAnyH_ready (rs := [9]) (by kernel_rfl) (by simp) ?_
                                    refine (AllReadyH.cons rfl (fun K hK => ?_) AllReadyH.nil)
                                    go_simp
                                    refine hK.out _ _ ?_ (fun hHeld => ?_)
                                    · exact HL.out _ (B1.alloc B1.size _)
                                    clear hK K
                                    (try simp only [Act.put, List.setIfInBounds_toArray, List.set_cons_zero, List.set_cons_succ, List.getElem_toArray, List.getElem_cons_zero, List.getElem_cons_succ])
                                    refine wpAnyH_ready (rs := [10]) (by kernel_rfl) (by simp) ?_
                                    refine (AllReadyH.cons rfl (fun K hK => ?_) AllReadyH.nil)
                                    (refine step_append_own (by rfl) _ _ _ (by rfl) w3.heap.size 3 i0 (.int .i64 0) 1 8 Try.underlying22 hi0 hz0 hz1 hz2 rfl (by decide) _ i (A1.map (Value.int .i64)) (by rfl) (own1.alloc _) ⟨W1.heap.size, 0, none⟩ 1 1 [.int .i64 (V : Int)] (by rfl) rfl (World.news_of_block (cs := #[.int .i64 (V : Int)]) (t := 3) (fr := (0, 0)) (heap_alloc_new W1 _)) (by intro u hu; simp at hu; subst hu; rfl) (by unfold maxLen; omega) (by omega) (by simp; have := B1.size; omega) ?_)
                                    intro v2 W2 own2 grow2 hnil2
                                    have B2 := (B1.alloc B1.size _).grown grow2 (by simp; have := B1.size; omega) (fun q hq => (World.ownsRow.lt own1 q hq).1)
                                    have hn2 : v2 ≠ .slice none 0 0 := fun e => hn1 (hnil2.1 e).1
                                    clear grow2 hnil2 own1 B1 hn1
                                    refine hK.out _ _ ?_ (fun hHeld => ?_)
                                    · exact HL.out _ B2
                                    clear hK K
                                    (try simp only [Act.put, List.setIfInBounds_toArray, List.set_cons_zero, List.set_cons_succ, List.getElem_toArray, List.getElem_cons_zero, List.getElem_cons_succ])
                                    refine wpAnyH_ready (rs := [14]) (by kernel_rfl) (by simp) ?_
                                    refine (AllReadyH.cons rfl (fun K hK => ?_) AllReadyH.nil)
                                    (refine step_append_own (by rfl) _ _ _ (by rfl) w3.heap.size 3 i0 (.int .i64 0) 1 8 Try.underlying22 hi0 hz0 hz1 hz2 rfl (by decide) _ (i + 1) (A1.map (Value.int .i64) ++ [.int .i64 (V : Int)]) (by rfl) own2 ⟨g, 0, none⟩ 0 0 (D1.map (Value.int .i64)) (by rfl) (by rw [List.length_map, Nat.mul_one]; exact HD1.out) (HD.out _ B2) HO2.out (by unfold maxLen; omega) (by omega) B2.size ?_)
                                    intro v3 W3 own3 grow3 hnil3
                                    have B3 := hide (B2.grown grow3 B2.size (fun q hq => (World.ownsRow.lt own2 q hq).1))
                                    have hn3 : v3 ≠ .slice none 0 0 := fun e => hn2 (hnil3.1 e).1
                                    have O3 : Hid (Owns W3 w3.heap.size v3 (A1 ++ [(V : Int)] ++ D1)) := by
                                      unfold Hid Owns
                                      rw [List.length_append, List.length_append, HA1.out, HD1.out, List.map_append, List.map_append]
                                      exact own3
                                    clear own3 grow3 hnil3 own2 B2 hn2
                                    refine hK.out _ _ ?_ (fun hHeld => ?_)
                                    · exact HL.out _ B3.out
                                    clear hK K
                                    (try simp only [Act.put, List.setIfInBounds_toArray, List.set_cons_zero, List.set_cons_succ, List.getElem_toArray, List.getElem_cons_zero, List.getElem_cons_succ])
                                    refine wpAnyH_take (i := 15) (v := ?vvt37) rfl (by kernel_rfl) (by kernel_rfl) (by kernel_rfl) (fun _ _ _ h => h) (Or.inl ⟨by rfl, ?hyt37⟩) (by assumption) ?restt37
                                    case hyt37 => (intro w hSw; (try dsimp only at hSw); go_simp; (try with_reducible rfl))
                                    case restt37 =>
                                      (try simp only [Act.put, List.setIfInBounds_toArray, List.set_cons_zero, List.set_cons_succ, List.getElem_toArray, List.getElem_cons_zero, List.getElem_cons_succ])
                                      refine wpAnyH_done (by kernel_rfl) ?_ _
                                      go_wp2
                                      go_roundw
                                      case rel => exact ⟨i + 1, by omega, by go_num, by rw [HINS.out]; exact O3.out.le hwz, hn3, BQ.trans (B3.out.mono hwz)⟩
                                      case measure => simp only [intOf]; omega
                                  · go_simp
                                    refine hK.out _ _ ?_ (fun hHeld => ?_)
                                    · exact HL.out _ (bdrew' (bel2 w3 (.cells #[] 3) (.cells #[.int .i64 (V : Int)] 3)))
                                    clear hK K
                                    (try simp only [Act.put, List.setIfInBounds_toArray, List.set_cons_zero, List.set_cons_succ, List.getElem_toArray, List.getElem_cons_zero, List.getElem_cons_succ])
                                    refine wpAnyH_ready (rs := [4]) (by kernel_rfl) (by simp) ?_
                                    refine (AllReadyH.cons rfl (fun K hK => ?_) AllReadyH.nil)
                                    have BW := bdrew' (bel2 w3 (.cells #[] 3) (.cells #[.int .i64 (V : Int)] 3))
                                    (refine step_append_own (by rfl) _ _ _ (by rfl) w3.heap.size 3 i0 (.int .i64 0) 1 8 Try.underlying22 hi0 hz0 hz1 hz2 rfl (by decide) _ 0 [] (by rfl) ((World.ownsRow_lit w3 #[] 0 (Nat.le_refl _) (by simp) rfl).alloc (.cells #[.int .i64 (V : Int)] 3)).drew ⟨g, 0, none⟩ i i (A1.map (Value.int .i64)) (by rfl) (by rw [List.length_map, Nat.mul_one]; exact HA1.out) (HC.out _ BW) HO1.out (by unfold maxLen; omega) (by omega) (by first | (simp; done) | (simp; omega)) ?_)
                                    intro v1 W1 own1 grow1 hnil1
                                    rw [List.nil_append, Nat.zero_add] at own1
                                    have B1 := BW.grown grow1 (by first | (simp; done) | (simp; omega)) (fun q hq => by simp [Value.ownBlock] at hq; omega)
                                    have hn1 : v1 ≠ .slice none 0 0 := fun e => by have := (hnil1.1 e).1; cases this
                                    have hXb : W1.heap[w3.heap.size + 1]? = some (.cells #[.int .i64 (V : Int)] 3 (0, 0)) := (grow1.block _ (by first | (simp; done) | (simp; omega)) (by simp [Value.ownBlock])).trans (by show ((w3.alloc (.cells #[] 3)).alloc (.cells #[.int .i64 (V : Int)] 3)).heap[w3.heap.size + 1]? = _; have h := heap_alloc_new (w3.alloc (.cells #[] 3)) (.cells #[.int .i64 (V : Int)] 3); simpa using h)
                                    clear BW grow1 hnil1
                                    refine hK.out _ _ ?_ (fun hHeld => ?_)
                                    · exact HL.out _ B1
                                    clear hK K
                                    (try simp only [Act.put, List.setIfInBounds_toArray, List.set_cons_zero, List.set_cons_succ, List.getElem_toArray, List.getElem_cons_zero, List.getElem_cons_succ])
                                    refine wpAnyH_ready (rs := [10]) (by kernel_rfl) (by simp) ?_
                                    refine (AllReadyH.cons rfl (fun K hK => ?_) AllReadyH.nil)
                                    (refine step_append_own (by rfl) _ _ _ (by rfl) w3.heap.size 3 i0 (.int .i64 0) 1 8 Try.underlying22 hi0 hz0 hz1 hz2 rfl (by decide) _ i (A1.map (Value.int .i64)) (by rfl) own1 ⟨w3.heap.size + 1, 0, none⟩ 1 1 [.int .i64 (V : Int)] (by rfl) rfl (World.news_of_block (cs := #[.int .i64 (V : Int)]) (t := 3) (fr := (0, 0)) hXb) (by intro u hu; simp at hu; subst hu; rfl) (by unfold maxLen; omega) (by omega) B1.size ?_)
                                    intro v2 W2 own2 grow2 hnil2
                                    have B2 := (B1).grown grow2 B1.size (fun q hq => (World.ownsRow.lt own1 q hq).1)
                                    have hn2 : v2 ≠ .slice none 0 0 := fun e => hn1 (hnil2.1 e).1
                                    clear grow2 hnil2 own1 B1 hn1 hXb
                                    refine hK.out _ _ ?_ (fun hHeld => ?_)
                                    · exact HL.out _ B2
                                    clear hK K
                                    (try simp only [Act.put, List.setIfInBounds_toArray, List.set_cons_zero, List.set_cons_succ, List.getElem_toArray, List.getElem_cons_zero, List.getElem_cons_succ])
                                    refine wpAnyH_ready (rs := [14]) (by kernel_rfl) (by simp) ?_
                                    refine (AllReadyH.cons rfl (fun K hK => ?_) AllReadyH.nil)
                                    (refine step_append_own (by rfl) _ _ _ (by rfl) w3.heap.size 3 i0 (.int .i64 0) 1 8 Try.underlying22 hi0 hz0 hz1 hz2 rfl (by decide) _ (i + 1) (A1.map (Value.int .i64) ++ [.int .i64 (V : Int)]) (by rfl) own2 ⟨g, 0, none⟩ 0 0 (D1.map (Value.int .i64)) (by rfl) (by rw [List.length_map, Nat.mul_one]; exact HD1.out) (HD.out _ B2) HO2.out (by unfold maxLen; omega) (by omega) B2.size ?_)
                                    intro v3 W3 own3 grow3 hnil3
                                    have B3 := hide (B2.grown grow3 B2.size (fun q hq => (World.ownsRow.lt own2 q hq).1))
                                    have hn3 : v3 ≠ .slice none 0 0 := fun e => hn2 (hnil3.1 e).1
                                    have O3 : Hid (Owns W3 w3.heap.size v3 (A1 ++ [(V : Int)] ++ D1)) := by
                                      unfold Hid Owns
                                      rw [List.length_append, List.length_append, HA1.out, HD1.out, List.map_append, List.map_append]
                                      exact own3
                                    clear own3 grow3 hnil3 own2 B2 hn2
                                    refine hK.out _ _ ?_ (fun hHeld => ?_)
                                    · exact HL.out _ B3.out
                                    clear hK K
                                    (try simp only [Act.put, List.setIfInBounds_toArray, List.set_cons_zero, List.set_cons_succ, List.getElem_toArray, List.getElem_cons_zero, List.getElem_cons_succ])
                                    refine wpAnyH_take (i := 15) (v := ?vvt38) rfl (by kernel_rfl) (by kernel_rfl) (by kernel_rfl) (fun _ _ _ h => h) (Or.inl ⟨by rfl, ?hyt38⟩) (by assumption) ?restt38
                                    case hyt38 => (intro w hSw; (try dsimp only at hSw); go_simp; (try with_reducible rfl))
                                    case restt38 =>
                                      (try simp only [Act.put, List.setIfInBounds_toArray, List.set_cons_zero, List.set_cons_succ, List.getElem_toArray, List.getElem_cons_zero, List.getElem_cons_succ])
                                      refine wpAnyH_done (by kernel_rfl) ?_ _
                                      go_wp2
                                      go_roundw
                                      case rel => exact ⟨i + 1, by omega, by go_num, by rw [HINS.out]; exact O3.out.le hwz, hn3, BQ.trans (B3.out.mono hwz)⟩
                                      case measure => simp only [intOf]; omega
                                · go_simp
                                  refine hK.out _ _ ?_ (fun hHeld => ?_)
                                  · exact HL.out _ (bdrew' (bel1 w3 (.cells #[.int .i64 (V : Int)] 3)))
                                  clear hK K
                                  (try simp only [Act.put, List.setIfInBounds_toArray, List.set_cons_zero, List.set_cons_succ, List.getElem_toArray, List.getElem_cons_zero, List.getElem_cons_succ])
                                  refine wpAnyH_ready (rs := [0]) (by kernel_rfl) (by simp) ?_
                                  refine (AllReadyH.cons rfl (fun K hK => ?_) AllReadyH.nil)
                                  go_simp
                                  refine hK.out _ _ ?_ (fun hHeld => ?_)
                                  · exact HL.out _ (bdrew' (bel2 w3 (.cells #[.int .i64 (V : Int)] 3) (.cells #[] 3)))
                                  clear hK K
                                  (try simp only [Act.put, List.setIfInBounds_toArray, List.set_cons_zero, List.set_cons_succ, List.getElem_toArray, List.getElem_cons_zero])
                                  refine wpAnyH_ready (rs := [4]) (by kernel_rfl) (by simp) ?_
                                  refine (AllReadyH.cons rfl (fun K hK => ?_) AllReadyH.nil)
                                  have BW := bdrew' (bel2 w3 (.cells #[.int .i64 (V : Int)] 3) (.cells #[] 3))
                                  (refine step_append_own (by rfl) _ _ _ (by rfl) w3.heap.size 3 i0 (.int .i64 0) 1 8 Try.underlying22 hi0 hz0 hz1 hz2 rfl (by decide) _ 0 [] (by rfl) HO3.out ⟨g, 0, none⟩ i i (A1.map (Value.int .i64)) (by rfl) (by rw [List.length_map, Nat.mul_one]; exact HA1.out) (HC.out _ BW) HO1.out (by unfold maxLen; omega) (by omega) (by first | (simp; done) | (simp; omega)) ?_)
                                  intro v1 W1 own1 grow1 hnil1
                                  rw [List.nil_append, Nat.zero_add] at own1
                                  have B1 := BW.grown grow1 (by first | (simp; done) | (simp; omega)) (fun q hq => by simp [Value.ownBlock] at hq; omega)
                                  have hn1 : v1 ≠ .slice none 0 0 := fun e => by have := (hnil1.1 e).1; cases this
                                  have hXb : W1.heap[w3.heap.size]? = some (.cells #[.int .i64 (V : Int)] 3 (0, 0)) := (grow1.block _ (by first | (simp; done) | (simp; omega)) (by simp [Value.ownBlock])).trans (by show ((w3.alloc (.cells #[.int .i64 (V : Int)] 3)).alloc (.cells #[] 3)).heap[w3.heap.size]? = _; exact ((bel1 (w3.alloc (.cells #[.int .i64 (V : Int)] 3)) (.cells #[] 3)).block _ (by first | (simp; done) | (simp; omega))).trans (heap_alloc_new w3 (.cells #[.int .i64 (V : Int)] 3)))
                                  clear BW grow1 hnil1
                                  refine hK.out _ _ ?_ (fun hHeld => ?_)
                                  · exact HL.out _ B1
                                  clear hK K
                                  (try simp only [Act.put, List.setIfInBounds_toArray, List.set_cons_zero, List.set_cons_succ, List.getElem_toArray, List.getElem_cons_zero, List.getElem_cons_succ])
                                  refine wpAnyH_ready (rs := [10]) (by kernel_rfl) (by simp) ?_
                                  refine (AllReadyH.cons rfl (fun K hK => ?_) AllReadyH.nil)
                                  (refine step_append_own (by rfl) _ _ _ (by rfl) w3.heap.size 3 i0 (.int .i64 0) 1 8 Try.underlying22 hi0 hz0 hz1 hz2 rfl (by decide) _ i (A1.map (Value.int .i64)) (by rfl) own1 ⟨w3.heap.size, 0, none⟩ 1 1 [.int .i64 (V : Int)] (by rfl) rfl (World.news_of_block (cs := #[.int .i64 (V : Int)]) (t := 3) (fr := (0, 0)) hXb) (by intro u hu; simp at hu; subst hu; rfl) (by unfold maxLen; omega) (by omega) B1.size ?_)
                                  intro v2 W2 own2 grow2 hnil2
                                  have B2 := (B1).grown grow2 B1.size (fun q hq => (World.ownsRow.lt own1 q hq).1)
                                  have hn2 : v2 ≠ .slice none 0 0 := fun e => hn1 (hnil2.1 e).1
                                  clear grow2 hnil2 own1 B1 hn1 hXb
                                  refine hK.out _ _ ?_ (fun hHeld => ?_)
                                  · exact HL.out _ B2
                                  clear hK K
                                  (try simp only [Act.put, List.setIfInBounds_toArray, List.set_cons_zero, List.set_cons_succ, List.getElem_toArray, List.getElem_cons_zero, List.getElem_cons_succ])
                                  refine wpAnyH_ready (rs := [14]) (by kernel_rfl) (by simp) ?_
                                  refine (AllReadyH.cons rfl (fun K hK => ?_) AllReadyH.nil)
                                  (refine step_append_own (by rfl) _ _ _ (by rfl) w3.heap.size 3 i0 (.int .i64 0) 1 8 Try.underlying22 hi0 hz0 hz1 hz2 rfl (by decide) _ (i + 1) (A1.map (Value.int .i64) ++ [.int .i64 (V : Int)]) (by rfl) own2 ⟨g, 0, none⟩ 0 0 (D1.map (Value.int .i64)) (by rfl) (by rw [List.length_map, Nat.mul_one]; exact HD1.out) (HD.out _ B2) HO2.out (by unfold maxLen; omega) (by omega) B2.size ?_)
                                  intro v3 W3 own3 grow3 hnil3
                                  have B3 := hide (B2.grown grow3 B2.size (fun q hq => (World.ownsRow.lt own2 q hq).1))
                                  have hn3 : v3 ≠ .slice none 0 0 := fun e => hn2 (hnil3.1 e).1
                                  have O3 : Hid (Owns W3 w3.heap.size v3 (A1 ++ [(V : Int)] ++ D1)) := by
                                    unfold Hid Owns
                                    rw [List.length_append, List.length_append, HA1.out, HD1.out, List.map_append, List.map_append]
                                    exact own3
                                  clear own3 grow3 hnil3 own2 B2 hn2
                                  refine hK.out _ _ ?_ (fun hHeld => ?_)
                                  · exact HL.out _ B3.out
                                  clear hK K
                                  (try simp only [Act.put, List.setIfInBounds_toArray, List.set_cons_zero, List.set_cons_succ, List.getElem_toArray, List.getElem_cons_zero, List.getElem_cons_succ])
                                  refine wpAnyH_take (i := 15) (v := ?vvt39) rfl (by kernel_rfl) (by kernel_rfl) (by kernel_rfl) (fun _ _ _ h => h) (Or.inl ⟨by rfl, ?hyt39⟩) (by assumption) ?restt39
                                  case hyt39 => (intro w hSw; (try dsimp only at hSw); go_simp; (try with_reducible rfl))
                                  case restt39 =>
                                    (try simp only [Act.put, List.setIfInBounds_toArray, List.set_cons_zero, List.set_cons_succ, List.getElem_toArray, List.getElem_cons_zero, List.getElem_cons_succ])
                                    refine wpAnyH_done (by kernel_rfl) ?_ _
                                    go_wp2
                                    go_roundw
                                    case rel => exact ⟨i + 1, by omega, by go_num, by rw [HINS.out]; exact O3.out.le hwz, hn3, BQ.trans (B3.out.mono hwz)⟩
                                    case measure => simp only [intOf]; omega
          · have hvk' : ¬ vc = i := fun e => hvk e.symm
            have HD0 : Hid (D1.length = 0) := HD1.out.trans (Nat.sub_self _)
            clear HD1
            have HD1 := HD0
            clear HD0
            go_wp2
            refine wp_region_held_drew (S := (fun W => W.cell? ⟨lb, lo + i, none⟩ = some (.int .i64 (V : Int)))) (by kernel_rfl) ?_ (fun hHeld => ?_)
            · exact HL.out _ (bdrew' (Below.refl _ _))
            refine wpAnyH_take (i := 1) (v := ?vvt53) rfl (by kernel_rfl) (by kernel_rfl) (by kernel_rfl) (fun _ _ _ h => h) (Or.inl ⟨by rfl, ?hyt53⟩) (by assumption) ?restt53
            case hyt53 => (intro w hSw; (try dsimp only at hSw); go_simp; (try with_reducible rfl))
            case restt53 =>
              (try simp only [Act.put, List.setIfInBounds_toArray, List.set_cons_zero, List.set_cons_succ, List.getElem_toArray, List.getElem_cons_zero, List.getElem_cons_succ])
              refine wpAnyH_take (i := 2) (v := ?vvt54) rfl (by kernel_rfl) (by kernel_rfl) (by kernel_rfl) (fun _ _ _ h => h) (Or.inl ⟨by rfl, ?hyt54⟩) (by assumption) ?restt54
              case hyt54 => (intro w hSw; (try dsimp only at hSw); go_simp; (try with_reducible rfl))
              case restt54 =>
                (try simp only [Act.put, List.setIfInBounds_toArray, List.set_cons_zero, List.set_cons_succ, List.getElem_toArray, List.getElem_cons_zero, List.getElem_cons_succ])
                refine wpAnyH_take (i := 3) (v := ?vvt55) rfl (by kernel_rfl) (by kernel_rfl) (by kernel_rfl) (fun _ _ _ h => h) (Or.inl ⟨by rfl, ?hyt55⟩) (by assumption) ?restt55
                case hyt55 => (intro w hSw; (try dsimp only at hSw); go_simp; (try with_reducible rfl))
                case restt55 =>
                  (try simp only [Act.put, List.setIfInBounds_toArray, List.set_cons_zero, List.set_cons_succ, List.getElem_toArray, List.getElem_cons_zero, List.getElem_cons_succ])
                  refine wpAnyH_take (i := 5) (v := ?vvt56) rfl (by kernel_rfl) (by kernel_rfl) (by kernel_rfl) (fun _ _ _ h => h) (Or.inl ⟨by rfl, ?hyt56⟩) (by assumption) ?restt56
                  case hyt56 => (intro w hSw; (try dsimp only at hSw); go_simp; (try with_reducible rfl))
                  case restt56 =>
                    (try simp only [Act.put, List.setIfInBounds_toArray, List.set_cons_zero, List.set_cons_succ, List.getElem_toArray, List.getElem_cons_zero, List.getElem_cons_succ])
                    refine wpAnyH_take (i := 6) (v := ?vvt57) rfl (by kernel_rfl) (by kernel_rfl) (by kernel_rfl) (fun _ _ _ h => h) (Or.inl ⟨by rfl, ?hyt57⟩) (by assumption) ?restt57
                    case hyt57 => (intro w hSw; (try dsimp only at hSw); go_simp; (try with_reducible rfl))
                    case restt57 =>
                      (try simp only [Act.put, List.setIfInBounds_toArray, List.set_cons_zero, List.set_cons_succ, List.getElem_toArray, List.getElem_cons_zero, List.getElem_cons_succ])
                      refine wpAnyH_take (i := 7) (v := ?vvt58) rfl (by kernel_rfl) (by kernel_rfl) (by kernel_rfl) (fun _ _ _ h => h) (Or.inl ⟨by rfl, ?hyt58⟩) (by assumption) ?restt58
                      case hyt58 => (intro w hSw; (try dsimp only at hSw); go_simp; (try with_reducible rfl))
                      case restt58 =>
                        (try simp only [Act.put, List.setIfInBounds_toArray, List.set_cons_zero, List.set_cons_succ, List.getElem_toArray, List.getElem_cons_zero, List.getElem_cons_succ])
                        refine wpAnyH_take (i := 8) (v := ?vvt59) rfl (by kernel_rfl) (by kernel_rfl) (by kernel_rfl) (fun _ _ _ h => h) (Or.inl ⟨by rfl, ?hyt59⟩) (by assumption) ?restt59
                        case hyt59 => (intro w hSw; (try dsimp only at hSw); go_simp; (try with_reducible rfl))
                        case restt59 =>
                          (try simp only [Act.put, List.setIfInBounds_toArray, List.set_cons_zero, List.set_cons_succ, List.getElem_toArray, List.getElem_cons_zero, List.getElem_cons_succ])
                          refine wpAnyH_take (i := 11) (v := ?vvt60) rfl (by kernel_rfl) (by kernel_rfl) (by kernel_rfl) (fun _ _ _ h => h) (Or.inl ⟨by rfl, ?hyt60⟩) (by assumption) ?restt60
                          case hyt60 => (intro w hSw; (try dsimp only at hSw); go_simp; (try with_reducible rfl))
                          case restt60 =>
                            (try simp only [Act.put, List.setIfInBounds_toArray, List.set_cons_zero, List.set_cons_succ, List.getElem_toArray, List.getElem_cons_zero, List.getElem_cons_succ])
                            refine wpAnyH_take (i := 12) (v := ?vvt61) rfl (by kernel_rfl) (by kernel_rfl) (by kernel_rfl) (fun _ _ _ h => h) (Or.inl ⟨by rfl, ?hyt61⟩) (by assumption) ?restt61
                            case hyt61 => (intro w hSw; (try dsimp only at hSw); go_simp; (try with_reducible rfl))
                            case restt61 =>
                              (try simp only [Act.put, List.setIfInBounds_toArray, List.set_cons_zero, List.set_cons_succ, List.getElem_toArray, List.getElem_cons_zero, List.getElem_cons_succ])
                              refine wpAnyH_take (i := 13) (v := ?vvt62) rfl (by kernel_rfl) (by kernel_rfl) (by kernel_rfl) (fun _ _ _ h => h) (Or.inl ⟨by rfl, ?hyt62⟩) (by assumption) ?restt62
                              case hyt62 => (intro w hSw; (try dsimp only at hSw); go_simp; (try with_reducible rfl))
                              case restt62 =>
                                (try simp only [Act.put, List.setIfInBounds_toArray, List.set_cons_zero, List.set_cons_succ, List.getElem_toArray, List.getElem_cons_zero, List.getElem_cons_succ])
                                refine wpAnyH_ready (rs := [0, 9]) (by kernel_rfl) (by simp) ?_
                                refine (AllReadyH.cons rfl (fun K hK => ?_) (AllReadyH.cons rfl (fun K hK => ?_) AllReadyH.nil))
                                · go_simp
                                  refine hK.out _ _ ?_ (fun hHeld => ?_)
                                  · exact HL.out _ (bdrew' (bel1 w3 (.cells #[] 3)))
                                  clear hK K
                                  (try simp only [Act.put, List.setIfInBounds_toArray, List.set_cons_zero, List.set_cons_succ, List.getElem_toArray, List.getElem_cons_zero])
                                  refine wpAnyH_ready (rs := [4, 9]) (by kernel_rfl) (by simp) ?_
                                  refine (AllReadyH.cons rfl (fun K hK => ?_) (AllReadyH.cons rfl (fun K hK => ?_) AllReadyH.nil))
                                  · have BW := bdrew' (bel1 w3 (.cells #[] 3))
                                    (refine step_append_own (by rfl) _ _ _ (by rfl) w3.heap.size 3 i0 (.int .i64 0) 1 8 Try.underlying22 hi0 hz0 hz1 hz2 rfl (by decide) _ 0 [] (by rfl) (World.ownsRow_lit w3 #[] 0 (Nat.le_refl _) (by simp) rfl).drew ⟨g, 0, none⟩ i vc (A1.map (Value.int .i64)) (by rfl) (by rw [List.length_map, Nat.mul_one]; exact HA1.out) (HC.out _ BW) HO1.out (by unfold maxLen; omega) (by omega) (by first | (simp; done) | (simp; omega)) ?_)
                                    intro v1 W1 own1 grow1 hnil1
                                    rw [List.nil_append, Nat.zero_add] at own1
                                    have B1 := BW.grown grow1 (by first | (simp; done) | (simp; omega)) (fun q hq => by simp [Value.ownBlock] at hq; omega)
                                    have hn1 : v1 ≠ .slice none 0 0 := fun e => by have := (hnil1.1 e).1; cases this
                                    clear BW grow1 hnil1
                                    refine hK.out _ _ ?_ (fun hHeld => ?_)
                                    · exact HL.out _ B1
                                    clear hK K
                                    (try simp only [Act.put, List.setIfInBounds_toArray, List.set_cons_zero, List.set_cons_succ, List.getElem_toArray, List.getElem_cons_zero, List.getElem_cons_succ])
                                    refine wpAnyH_ready (rs := [9]) (by kernel_rfl) (by simp) ?_
                                    refine (AllReadyH.cons rfl (fun K hK => ?_) AllReadyH.nil)
                                    go_simp
                                    refine hK.out _ _ ?_ (fun hHeld => ?_)
                                    · exact HL.out _ (B1.alloc B1.size _)
                                    clear hK K
                                    (try simp only [Act.put, List.setIfInBounds_toArray, List.set_cons_zero, List.set_cons_succ, List.getElem_toArray, List.getElem_cons_zero, List.getElem_cons_succ])
                                    refine wpAnyH_ready (rs := [10]) (by kernel_rfl) (by simp) ?_
                                    refine (AllReadyH.cons rfl (fun K hK => ?_) AllReadyH.nil)
                                    (refine step_append_own (by rfl) _ _ _ (by rfl) w3.heap.size 3 i0 (.int .i64 0) 1 8 Try.underlying22 hi0 hz0 hz1 hz2 rfl (by decide) _ i (A1.map (Value.int .i64)) (by rfl) (own1.alloc _) ⟨W1.heap.size, 0, none⟩ 1 1 [.int .i64 (V : Int)] (by rfl) rfl (World.news_of_block (cs := #[.int .i64 (V : Int)]) (t := 3) (fr := (0, 0)) (heap_alloc_new W1 _)) (by intro u hu; simp at hu; subst hu; rfl) (by unfold maxLen; omega) (by omega) (by simp; have := B1.size; omega) ?_)
                                    intro v2 W2 own2 grow2 hnil2
                                    have B2 := (B1.alloc B1.size _).grown grow2 (by simp; have := B1.size; omega) (fun q hq => (World.ownsRow.lt own1 q hq).1)
                                    have hn2 : v2 ≠ .slice none 0 0 := fun e => hn1 (hnil2.1 e).1
                                    clear grow2 hnil2 own1 B1 hn1
                                    refine hK.out _ _ ?_ (fun hHeld => ?_)
                                    · exact HL.out _ B2
                                    clear hK K
                                    (try simp only [Act.put, List.setIfInBounds_toArray, List.set_cons_zero, List.set_cons_succ, List.getElem_toArray, List.getElem_cons_zero, List.getElem_cons_succ])
                                    refine wpAnyH_ready (rs := [14]) (by kernel_rfl) (by simp) ?_
                                    refine (AllReadyH.cons rfl (fun K hK => ?_) AllReadyH.nil)
                                    (refine step_append_own (by rfl) _ _ _ (by rfl) w3.heap.size 3 i0 (.int .i64 0) 1 8 Try.underlying22 hi0 hz0 hz1 hz2 rfl (by decide) _ (i + 1) (A1.map (Value.int .i64) ++ [.int .i64 (V : Int)]) (by rfl) own2 ⟨g, i, none⟩ 0 (vc - i) (D1.map (Value.int .i64)) (by rfl) (by rw [List.length_map, Nat.mul_one]; exact HD1.out) (HD.out _ B2) HO2.out (by unfold maxLen; omega) (by omega) B2.size ?_)
                                    intro v3 W3 own3 grow3 hnil3
                                    have B3 := hide (B2.grown grow3 B2.size (fun q hq => (World.ownsRow.lt own2 q hq).1))
                                    have hn3 : v3 ≠ .slice none 0 0 := fun e => hn2 (hnil3.1 e).1
                                    have O3 : Hid (Owns W3 w3.heap.size v3 (A1 ++ [(V : Int)] ++ D1)) := by
                                      unfold Hid Owns
                                      rw [List.length_append, List.length_append, HA1.out, HD1.out, List.map_append, List.map_append]
                                      exact own3
                                    clear own3 grow3 hnil3 own2 B2 hn2
                                    refine hK.out _ _ ?_ (fun hHeld => ?_)
                                    · exact HL.out _ B3.out
                                    clear hK K
                                    (try simp only [Act.put, List.setIfInBounds_toArray, List.set_cons_zero, List.set_cons_succ, List.getElem_toArray, List.getElem_cons_zero, List.getElem_cons_succ])
                                    refine wpAnyH_take (i := 15) (v := ?vvt63) rfl (by kernel_rfl) (by kernel_rfl) (by kernel_rfl) (fun _ _ _ h => h) (Or.inl ⟨by rfl, ?hyt63⟩) (by assumption) ?restt63
                                    case hyt63 => (intro w hSw; (try dsimp only at hSw); go_simp; (try with_reducible rfl))
                                    case restt63 =>
                                      (try simp only [Act.put, List.setIfInBounds_toArray, List.set_cons_zero, List.set_cons_succ, List.getElem_toArray, List.getElem_cons_zero, List.getElem_cons_succ])
                                      refine wpAnyH_done (by kernel_rfl) ?_ _
                                      go_wp2
                                      go_roundw
                                      case rel => exact ⟨i + 1, by omega, by go_num, by rw [HINS.out]; exact O3.out.le hwz, hn3, BQ.trans (B3.out.mono hwz)⟩
                                      case measure => simp only [intOf]; omega
                                  · go_simp
                                    refine hK.out _ _ ?_ (fun hHeld => ?_)
                                    · exact HL.out _ (bdrew' (bel2 w3 (.cells #[] 3) (.cells #[.int .i64 (V : Int)] 3)))
                                    clear hK K
                                    (try simp only [Act.put, List.setIfInBounds_toArray, List.set_cons_zero, List.set_cons_succ, List.getElem_toArray, List.getElem_cons_zero, List.getElem_cons_succ])
                                    refine wpAnyH_ready (rs := [4]) (by kernel_rfl) (by simp) ?_
                                    refine (AllReadyH.cons rfl (fun K hK => ?_) AllReadyH.nil)
                                    have BW := bdrew' (bel2 w3 (.cells #[] 3) (.cells #[.int .i64 (V : Int)] 3))
                                    (refine step_append_own (by rfl) _ _ _ (by rfl) w3.heap.size 3 i0 (.int .i64 0) 1 8 Try.underlying22 hi0 hz0 hz1 hz2 rfl (by decide) _ 0 [] (by rfl) ((World.ownsRow_lit w3 #[] 0 (Nat.le_refl _) (by simp) rfl).alloc (.cells #[.int .i64 (V : Int)] 3)).drew ⟨g, 0, none⟩ i vc (A1.map (Value.int .i64)) (by rfl) (by rw [List.length_map, Nat.mul_one]; exact HA1.out) (HC.out _ BW) HO1.out (by unfold maxLen; omega) (by omega) (by first | (simp; done) | (simp; omega)) ?_)
                                    intro v1 W1 own1 grow1 hnil1
                                    rw [List.nil_append, Nat.zero_add] at own1
                                    have B1 := BW.grown grow1 (by first | (simp; done) | (simp; omega)) (fun q hq => by simp [Value.ownBlock] at hq; omega)
                                    have hn1 : v1 ≠ .slice none 0 0 := fun e => by have := (hnil1.1 e).1; cases this
                                    have hXb : W1.heap[w3.heap.size + 1]? = some (.cells #[.int .i64 (V : Int)] 3 (0, 0)) := (grow1.block _ (by first | (simp; done) | (simp; omega)) (by simp [Value.ownBlock])).trans (by show ((w3.alloc (.cells #[] 3)).alloc (.cells #[.int .i64 (V : Int)] 3)).heap[w3.heap.size + 1]? = _; have h := heap_alloc_new (w3.alloc (.cells #[] 3)) (.cells #[.int .i64 (V : Int)] 3); simpa using h)
                                    clear BW grow1 hnil1
                                    refine hK.out _ _ ?_ (fun hHeld => ?_)
                                    · exact HL.out _ B1
                                    clear hK K
                                    (try simp only [Act.put, List.setIfInBounds_toArray, List.set_cons_zero, List.set_cons_succ, List.getElem_toArray, List.getElem_cons_zero, List.getElem_cons_succ])
                                    refine wpAnyH_ready (rs := [10]) (by kernel_rfl) (by simp) ?_
                                    refine (AllReadyH.cons rfl (fun K hK => ?_) AllReadyH.nil)
                                    (refine step_append_own (by rfl) _ _ _ (by rfl) w3.heap.size 3 i0 (.int .i64 0) 1 8 Try.underlying22 hi0 hz0 hz1 hz2 rfl (by decide) _ i (A1.map (Value.int .i64)) (by rfl) own1 ⟨w3.heap.size + 1, 0, none⟩ 1 1 [.int .i64 (V : Int)] (by rfl) rfl (World.news_of_block (cs := #[.int .i64 (V : Int)]) (t := 3) (fr := (0, 0)) hXb) (by intro u hu; simp at hu; subst hu; rfl) (by unfold maxLen; omega) (by omega) B1.size ?_)
                                    intro v2 W2 own2 grow2 hnil2
                                    have B2 := (B1).grown grow2 B1.size (fun q hq => (World.ownsRow.lt own1 q hq).1)
                                    have hn2 : v2 ≠ .slice none 0 0 := fun e => hn1 (hnil2.1 e).1
                                    clear grow2 hnil2 own1 B1 hn1 hXb
                                    refine hK.out _ _ ?_ (fun hHeld => ?_)
                                    · exact HL.out _ B2
                                    clear hK K
                                    (try simp only [Act.put, List.setIfInBounds_toArray, List.set_cons_zero, List.set_cons_succ, List.getElem_toArray, List.getElem_cons_zero, List.getElem_cons_succ])
                                    refine wpAnyH_ready (rs := [14]) (by kernel_rfl) (by simp) ?_
                                    refine (AllReadyH.cons rfl (fun K hK => ?_) AllReadyH.nil)
                                    (refine step_append_own (by rfl) _ _ _ (by rfl) w3.heap.size 3 i0 (.int .i64 0) 1 8 Try.underlying22 hi0 hz0 hz1 hz2 rfl (by decide) _ (i + 1) (A1.map (Value.int .i64) ++ [.int .i64 (V : Int)]) (by rfl) own2 ⟨g, i, none⟩ 0 (vc - i) (D1.map (Value.int .i64)) (by rfl) (by rw [List.length_map, Nat.mul_one]; exact HD1.out) (HD.out _ B2) HO2.out (by unfold maxLen; omega) (by omega) B2.size ?_)
                                    intro v3 W3 own3 grow3 hnil3
                                    have B3 := hide (B2.grown grow3 B2.size (fun q hq => (World.ownsRow.lt own2 q hq).1))
                                    have hn3 : v3 ≠ .slice none 0 0 := fun e => hn2 (hnil3.1 e).1
                                    have O3 : Hid (Owns W3 w3.heap.size v3 (A1 ++ [(V : Int)] ++ D1)) := by
                                      unfold Hid Owns
                                      rw [List.length_append, List.length_append, HA1.out, HD1.out, List.map_append, List.map_append]
                                      exact own3
                                    clear own3 grow3 hnil3 own2 B2 hn2
                                    refine hK.out _ _ ?_ (fun hHeld => ?_)
                                    · exact HL.out _ B3.out
                                    clear hK K
                                    (try simp only [Act.put, List.setIfInBounds_toArray, List.set_cons_zero, List.set_cons_succ, List.getElem_toArray, List.getElem_cons_zero, List.getElem_cons_succ])
                                    refine wpAnyH_take (i := 15) (v := ?vvt64) rfl (by kernel_rfl) (by kernel_rfl) (by kernel_rfl) (fun _ _ _ h => h) (Or.inl ⟨by rfl, ?hyt64⟩) (by assumption) ?restt64
                                    case hyt64 => (intro w hSw; (try dsimp only at hSw); go_simp; (try with_reducible rfl))
                                    case restt64 =>
                                      (try simp only [Act.put, List.setIfInBounds_toArray, List.set_cons_zero, List.set_cons_succ, List.getElem_toArray, List.getElem_cons_zero, List.getElem_cons_succ])
                                      refine wpAnyH_done (by kernel_rfl) ?_ _
                                      go_wp2
                                      go_roundw
                                      case rel => exact ⟨i + 1, by omega, by go_num, by rw [HINS.out]; exact O3.out.le hwz, hn3, BQ.trans (B3.out.mono hwz)⟩
                                      case measure => simp only [intOf]; omega
                                · go_simp
                                  refine hK.out _ _ ?_ (fun hHeld => ?_)
                                  · exact HL.out _ (bdrew' (bel1 w3 (.cells #[.int .i64 (V : Int)] 3)))
                                  clear hK K
                                  (try simp only [Act.put, List.setIfInBounds_toArray, List.set_cons_zero, List.set_cons_succ, List.getElem_toArray, List.getElem_cons_zero, List.getElem_cons_succ])
                                  refine wpAnyH_ready (rs := [0]) (by kernel_rfl) (by simp) ?_
                                  refine (AllReadyH.cons rfl (fun K hK => ?_) AllReadyH.nil)
                                  go_simp
                                  refine hK.out _ _ ?_ (fun hHeld => ?_)
                                  · exact HL.out _ (bdrew' (bel2 w3 (.cells #[.int .i64 (V : Int)] 3) (.cells #[] 3)))
                                  clear hK K
                                  (try simp only [Act.put, List.setIfInBounds_toArray, List.set_cons_zero, List.set_cons_succ, List.getElem_toArray, List.getElem_cons_zero])
                                  refine wpAnyH_ready (rs := [4]) (by kernel_rfl) (by simp) ?_
                                  refine (AllReadyH.cons rfl (fun K hK => ?_) AllReadyH.nil)
                                  have BW := bdrew' (bel2 w3 (.cells #[.int .i64 (V : Int)] 3) (.cells #[] 3))
                                  (refine step_append_own (by rfl) _ _ _ (by rfl) w3.heap.size 3 i0 (.int .i64 0) 1 8 Try.underlying22 hi0 hz0 hz1 hz2 rfl (by decide) _ 0 [] (by rfl) HO3.out ⟨g, 0, none⟩ i vc (A1.map (Value.int .i64)) (by rfl) (by rw [List.length_map, Nat.mul_one]; exact HA1.out) (HC.out _ BW) HO1.out (by unfold maxLen; omega) (by omega) (by first | (simp; done) | (simp; omega)) ?_)
                                  intro v1 W1 own1 grow1 hnil1
                                  rw [List.nil_append, Nat.zero_add] at own1
                                  have B1 := BW.grown grow1 (by first | (simp; done) | (simp; omega)) (fun q hq => by simp [Value.ownBlock] at hq; omega)
                                  have hn1 : v1 ≠ .slice none 0 0 := fun e => by have := (hnil1.1 e).1; cases this
                                  have hXb : W1.heap[w3.heap.size]? = some (.cells #[.int .i64 (V : Int)] 3 (0, 0)) := (grow1.block _ (by first | (simp; done) | (simp; omega)) (by simp [Value.ownBlock])).trans (by show ((w3.alloc (.cells #[.int .i64 (V : Int)] 3)).alloc (.cells #[] 3)).heap[w3.heap.size]? = _; exact ((bel1 (w3.alloc (.cells #[.int .i64 (V : Int)] 3)) (.cells #[] 3)).block _ (by first | (simp; done) | (simp; omega))).trans (heap_alloc_new w3 (.cells #[.int .i64 (V : Int)] 3)))
                                  clear BW grow1 hnil1
                                  refine hK.out _ _ ?_ (fun hHeld => ?_)
                                  · exact HL.out _ B1
                                  clear hK K
                                  (try simp only [Act.put, List.setIfInBounds_toArray, List.set_cons_zero, List.set_cons_succ, List.getElem_toArray, List.getElem_cons_zero, List.getElem_cons_succ])
                                  refine wpAnyH_ready (rs := [10]) (by kernel_rfl) (by simp) ?_
                                  refine (AllReadyH.cons rfl (fun K hK => ?_) AllReadyH.nil)
                                  (refine step_append_own (by rfl) _ _ _ (by rfl) w3.heap.size 3 i0 (.int .i64 0) 1 8 Try.underlying22 hi0 hz0 hz1 hz2 rfl (by decide) _ i (A1.map (Value.int .i64)) (by rfl) own1 ⟨w3.heap.size, 0, none⟩ 1 1 [.int .i64 (V : Int)] (by rfl) rfl (World.news_of_block (cs := #[.int .i64 (V : Int)]) (t := 3) (fr := (0, 0)) hXb) (by intro u hu; simp at hu; subst hu; rfl) (by unfold maxLen; omega) (by omega) B1.size ?_)
                                  intro v2 W2 own2 grow2 hnil2
                                  have B2 := (B1).grown grow2 B1.size (fun q hq => (World.ownsRow.lt own1 q hq).1)
                                  have hn2 : v2 ≠ .slice none 0 0 := fun e => hn1 (hnil2.1 e).1
                                  clear grow2 hnil2 own1 B1 hn1 hXb
                                  refine hK.out _ _ ?_ (fun hHeld => ?_)
                                  · exact HL.out _ B2
                                  clear hK K
                                  (try simp only [Act.put, List.setIfInBounds_toArray, List.set_cons_zero, List.set_cons_succ, List.getElem_toArray, List.getElem_cons_zero, List.getElem_cons_succ])
                                  refine wpAnyH_ready (rs := [14]) (by kernel_rfl) (by simp) ?_
                                  refine (AllReadyH.cons rfl (fun K hK => ?_) AllReadyH.nil)
                                  (refine step_append_own (by rfl) _ _ _ (by rfl) w3.heap.size 3 i0 (.int .i64 0) 1 8 Try.underlying22 hi0 hz0 hz1 hz2 rfl (by decide) _ (i + 1) (A1.map (Value.int .i64) ++ [.int .i64 (V : Int)]) (by rfl) own2 ⟨g, i, none⟩ 0 (vc - i) (D1.map (Value.int .i64)) (by rfl) (by rw [List.length_map, Nat.mul_one]; exact HD1.out) (HD.out _ B2) HO2.out (by unfold maxLen; omega) (by omega) B2.size ?_)
                                  intro v3 W3 own3 grow3 hnil3
                                  have B3 := hide (B2.grown grow3 B2.size (fun q hq => (World.ownsRow.lt own2 q hq).1))
                                  have hn3 : v3 ≠ .slice none 0 0 := fun e => hn2 (hnil3.1 e).1
                                  have O3 : Hid (Owns W3 w3.heap.size v3 (A1 ++ [(V : Int)] ++ D1)) := by
                                    unfold Hid Owns
                                    rw [List.length_append, List.length_append, HA1.out, HD1.out, List.map_append, List.map_append]
                                    exact own3
                                  clear own3 grow3 hnil3 own2 B2 hn2
                                  refine hK.out _ _ ?_ (fun hHeld => ?_)
                                  · exact HL.out _ B3.out
                                  clear hK K
                                  (try simp only [Act.put, List.setIfInBounds_toArray, List.set_cons_zero, List.set_cons_succ, List.getElem_toArray, List.getElem_cons_zero, List.getElem_cons_succ])
                                  refine wpAnyH_take (i := 15) (v := ?vvt65) rfl (by kernel_rfl) (by kernel_rfl) (by kernel_rfl) (fun _ _ _ h => h) (Or.inl ⟨by rfl, ?hyt65⟩) (by assumption) ?restt65
                                  case hyt65 => (intro w hSw; (try dsimp only at hSw); go_simp; (try with_reducible rfl))
                                  case restt65 =>
                                    (try simp only [Act.put, List.setIfInBounds_toArray, List.set_cons_zero, List.set_cons_succ, List.getElem_toArray, List.getElem_cons_zero, List.getElem_cons_succ])
                                    refine wpAnyH_done (by kernel_rfl) ?_ _
                                    go_wp2
                                    go_roundw
                                    case rel => exact ⟨i + 1, by omega, by go_num, by rw [HINS.out]; exact O3.out.le hwz, hn3, BQ.trans (B3.out.mono hwz)⟩
                                    case measure => simp only [intOf]; omega
    · obtain rfl : i = ms.length := by omega
      rw [List.take_length] at own
      go_wp2
      go_ret
      exact ⟨_, rfl, own, BR⟩
end Go.Proofs.Ythkikjidkehheaa
