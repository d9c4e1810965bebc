/- Texts of this seat one behind the other: TxtB, MutT. Conditions: none. -/
import Derived.Test.YtgebplpbnaeckaaGreatDoorMg16
import Derived.Test.YtgebplpbnaeckaaGreatDoorNg0
import Derived.Deep.RegionLaw

/- TxtB: Texts of spaces: what is written is read back, what is read is written back. -/
namespace Go.Proofs.YtgebplpbnaeckaaGreatDoor
open Go.RowKit Go.Joins

theorem map_dec (zs : List Int) : (txtL zs).map (·.data.toList) = zs.map fun x => Lib.decDigits x.toNat := by
  unfold txtL numS
  rw [List.map_map]
  rfl
theorem spc_text {n : Int} {zs : List Int} (hv : vsB n zs = true) : (spcS n zs).data.toList = Lib.decDigits n.toNat ++ 58 :: Lib.join (zs.map fun x => Lib.decDigits x.toNat) [44] := by
  unfold spcS
  rw [if_pos hv, ← lst_all zs, map_dec]
  simp [numS, ByteArray.data_append]
theorem spc_ts {n : Int} {zs : List Int} (hv : vsB n zs = true) : TS (spcS n zs).data.toList n zs := ⟨valid_of hv, spc_text hv⟩
theorem spc_par {n : Int} {zs : List Int} (hv : vsB n zs = true) : parS (spcS n zs).data.toList = some (n, zs) := parS_iff.2 (spc_ts hv)
theorem spc_back {s : ByteArray} {n : Int} {zs : List Int} (h : parS s.data.toList = some (n, zs)) : vsB n zs = true ∧ spcS n zs = s := by
  have ht := parS_iff.1 h
  have hv := vsB_true ht.1
  refine ⟨hv, ?_⟩
  have h1 := (spc_text hv).trans ht.2.symm
  exact ByteArray.ext (Array.ext' h1)
theorem spc_size (n : Int) (zs : List Int) : (spcS n zs).size ≤ 1000 := by
  unfold spcS
  split
  · rename_i hv
    have hV := valid_of hv
    have hr := valid_range hV
    have hl := valid_len hV
    have h1 := numS_le (x := n) (by have := hV.1; omega)
    have h2 := lstS_size (zs := zs) (fun x hx => ⟨(hr x hx).1, by have := (hr x hx).2; omega⟩) zs.length (Nat.le_refl _)
    rw [ByteArray.size_append, ByteArray.size_append]
    show _ + 1 + _ ≤ _
    omega
  · exact Nat.zero_le _
theorem spc_none {n : Int} {zs : List Int} (hv : vsB n zs = false) : spcS n zs = ⟨#[]⟩ := by
  unfold spcS
  rw [if_neg (by rw [hv]; decide)]
theorem spc_some {n : Int} {zs : List Int} (hv : vsB n zs = true) : spcS n zs ≠ (⟨#[]⟩ : ByteArray) := fun e' => by
  have h := spc_text hv
  rw [e'] at h
  have := congrArg List.length h
  simp at this
theorem specText_was (n : Int) (a : Option Addr) (cap : Nat) (zs : List Int) (T : ByteArray) (w : World) (hi : Ints w a zs) (hn : zs.length ≤ 1048576) (hT : spcS n zs = T) :
    Calls Tryz.prog 16 #[.agg #[.int .i64 n, .slice a zs.length cap]] w fun e w' => e = .returned (.string T) ∧ Below w.heap.size w w' := by
  subst hT
  exact specText_any n a cap zs w hi hn
end Go.Proofs.YtgebplpbnaeckaaGreatDoor

/- MutT: A text changed somewhere or not, by the model. -/
namespace Go.Proofs.YtgebplpbnaeckaaGreatDoor
open Go.RowKit Go.Joins

/-- What of leaves. -/
def OfPost (R n : Nat) (w : World) (e : Ending) (w' : World) : Prop :=
  ∃ x : ByteArray, e = .returned (.string x) ∧ x.size ≤ 16 ∧ w.grownBy w' (some R) ∧ RD w' R (n + 1)
set_option maxHeartbeats 1000000 in
theorem of_any (R n cap b L : Nat) (f : Nat → ByteArray) (w : World) (hr : RD w R n) (hn : n < 1073741824) (hb : ∀ i, i < L → w.cell? ⟨b, i, none⟩ = some (.string (f i))) (h0 : 0 < L) (h1 : L ≤ 1000) (hs : ∀ i, i < L → (f i).size ≤ 16) (hne : b ≠ R) :
    Calls Tryz.prog 15 #[.pointer (some ⟨R, 0, none⟩), .slice (some ⟨b, 0, none⟩) L cap] w (OfPost R n w) := by
  have HB := hide hb
  have HS := hide hs
  clear hb hs
  go_enter Tryz.func15, Tryz.ntmps15
  go_wp2_with fail
  refine (pick_any R n _ _ hr hn ⟨by omega, by omega⟩).mono ?_
  rintro e w1 ⟨r, rfl, hr0, hrl, _, hg, hrd⟩
  obtain ⟨i, rfl⟩ := Int.eq_ofNat_of_zero_le hr0
  have hil : i < L := by have := hrl (by omega); omega
  have hck := hg.cell (HB.out i hil) (by simp; omega)
  have HX := hide (HS.out i hil)
  obtain ⟨x, hx⟩ : ∃ x, f i = x := ⟨_, rfl⟩
  rw [hx] at hck HX
  have HG := hide hg
  have HRD := hide hrd
  clear hrl hg hrd hr hx HB HS
  go_wp2
  go_ret
  exact ⟨_, rfl, HX.out, HG.out, HRD.out⟩
def strF (l : List ByteArray) (i : Nat) : ByteArray := l.getD i ⟨#[]⟩
def txt8 : List ByteArray := [⟨#[48]⟩, ⟨#[49]⟩, ⟨#[55]⟩, ⟨#[44]⟩, ⟨#[58]⟩, ⟨#[45]⟩, ⟨#[97]⟩, ⟨#[32]⟩]
def txt5 : List ByteArray := [⟨#[48]⟩, ⟨#[44]⟩, ⟨#[32]⟩, ⟨#[44, 49, 53]⟩, ⟨#[58]⟩]
theorem txt8_size : ∀ i : Fin 8, (strF txt8 i.val).size ≤ 16 := by decide +kernel
theorem txt5_size : ∀ i : Fin 5, (strF txt5 i.val).size ≤ 16 := by decide +kernel
theorem lit8 (w : World) : ∀ i, i < 8 → (w.alloc (.cells #[.string { data := #[48] }, .string { data := #[49] }, .string { data := #[55] }, .string { data := #[44] }, .string { data := #[58] }, .string { data := #[45] }, .string { data := #[97] }, .string { data := #[32] }] 9)).cell? ⟨w.heap.size, i, none⟩ = some (.string (strF txt8 i)) := fun i hi => by
  match i, hi with
  | 0, _ => simp [go_sem, strF, txt8]
  | 1, _ => simp [go_sem, strF, txt8]
  | 2, _ => simp [go_sem, strF, txt8]
  | 3, _ => simp [go_sem, strF, txt8]
  | 4, _ => simp [go_sem, strF, txt8]
  | 5, _ => simp [go_sem, strF, txt8]
  | 6, _ => simp [go_sem, strF, txt8]
  | 7, _ => simp [go_sem, strF, txt8]
theorem lit5s (w : World) : ∀ i, i < 5 → (w.alloc (.cells #[.string { data := #[48] }, .string { data := #[44] }, .string { data := #[32] }, .string { data := #[44, 49, 53] }, .string { data := #[58] }] 9)).cell? ⟨w.heap.size, i, none⟩ = some (.string (strF txt5 i)) := fun i hi => by
  match i, hi with
  | 0, _ => simp [go_sem, strF, txt5]
  | 1, _ => simp [go_sem, strF, txt5]
  | 2, _ => simp [go_sem, strF, txt5]
  | 3, _ => simp [go_sem, strF, txt5]
  | 4, _ => simp [go_sem, strF, txt5]
/-- What mutate leaves. -/
def MutPost (R n : Nat) (w : World) (e : Ending) (w' : World) : Prop :=
  ∃ x : ByteArray, e = .returned (.string x) ∧ x.size ≤ 100000 ∧ w.grownBy w' (some R) ∧ RD w' R n
set_option maxHeartbeats 4000000 in
theorem mutate_any (R n : Nat) (s : ByteArray) (w : World) (hr : RD w R n) (hn : n < 1073730000) (hs : s.size ≤ 3000) :
    Calls Tryz.prog 21 #[.pointer (some ⟨R, 0, none⟩), .string s] w (MutPost R (n + 3) w) := by
  go_enter Tryz.func21, Tryz.ntmps21
  go_wp2_with fail
  refine (pick_any R n _ _ hr (by omega) ⟨by omega, by omega⟩).mono ?_
  rintro e w1 ⟨k, rfl, hk0, hkl, _, g1, rd1⟩
  obtain ⟨k, rfl⟩ := Int.eq_ofNat_of_zero_le hk0
  have hkl : k ≤ s.size := by have := hkl (by omega); omega
  clear hk0 hr
  go_wp2_with fail
  refine (pick_any R (n + 1) _ _ rd1 (by omega) ⟨by omega, by omega⟩).mono ?_
  rintro e w2 ⟨c, rfl, hc0, hcl, _, g2, rd2⟩
  have G2 := hide (gtrans g1 g2)
  have RD2 := hide rd2
  have hc5 : c < 5 := hcl (by omega)
  clear g1 g2 rd1 hcl
  have hext : (s.extract 0 k).size ≤ 3000 := by simp; omega
  have hexu : (s.extract (k + 1) s.size).size ≤ 3000 := by simp; omega
  obtain rfl | rfl | rfl | rfl | rfl : c = 0 ∨ c = 1 ∨ c = 2 ∨ c = 3 ∨ c = 4 := by omega
  · by_cases hlt : k < s.size
    · have hR := RD2.out.lt
      have hk1 : IntKind.i64.wrap ((k : Int) + 1) = (k : Int) + 1 := IntWalk.i64_in _ (by omega)
      have HO := hide (of_any R (n + 2) 8 w2.heap.size 8 (strF txt8) (w2.alloc (.cells #[.string { data := #[48] }, .string { data := #[49] }, .string { data := #[55] }, .string { data := #[44] }, .string { data := #[58] }, .string { data := #[45] }, .string { data := #[97] }, .string { data := #[32] }] 9)).drew (RD2.out.below (bdrew' (bel1 w2 _))) (by omega) (lit8 w2) (by omega) (by omega) (fun i hi => txt8_size ⟨i, hi⟩) (by omega))
      go_wp2
      go_region_with (go_at_call 15; refine (HO.out).mono ?_; rintro e w3 ⟨x, rfl, hx, g3, rd3⟩)
      all_goals
        have G3 := hide (gtrans (gbelow G2.out ((bdrew' (bel1 w2 _)).mono G2.out.size)) g3)
        have R3 := hide rd3
        have hsz : (s.extract 0 k ++ x ++ s.extract (k + 1) s.size).size ≤ 100000 := by rw [ByteArray.size_append, ByteArray.size_append]; omega
        clear g3 rd3 HO
        go_wp2
        go_ret
        exact ⟨_, rfl, hsz, G3.out, R3.out.more (by omega)⟩
    · go_wp2
      go_ret
      exact ⟨_, rfl, by omega, G2.out, RD2.out.more (by omega)⟩
  · by_cases hlt : k < s.size
    · have hR := RD2.out.lt
      have hk1 : IntKind.i64.wrap ((k : Int) + 1) = (k : Int) + 1 := IntWalk.i64_in _ (by omega)
      have HO := hide (of_any R (n + 2) 8 w2.heap.size 8 (strF txt8) (w2.alloc (.cells #[.string { data := #[48] }, .string { data := #[49] }, .string { data := #[55] }, .string { data := #[44] }, .string { data := #[58] }, .string { data := #[45] }, .string { data := #[97] }, .string { data := #[32] }] 9)).drew (RD2.out.below (bdrew' (bel1 w2 _))) (by omega) (lit8 w2) (by omega) (by omega) (fun i hi => txt8_size ⟨i, hi⟩) (by omega))
      go_wp2
      go_region_with (go_at_call 15; refine (HO.out).mono ?_; rintro e w3 ⟨x, rfl, hx, g3, rd3⟩)
      all_goals
        have G3 := hide (gtrans (gbelow G2.out ((bdrew' (bel1 w2 _)).mono G2.out.size)) g3)
        have R3 := hide rd3
        have hsz : (s.extract 0 k ++ x ++ s.extract (k + 1) s.size).size ≤ 100000 := by rw [ByteArray.size_append, ByteArray.size_append]; omega
        clear g3 rd3 HO
        go_wp2
        go_ret
        exact ⟨_, rfl, hsz, G3.out, R3.out.more (by omega)⟩
    · go_wp2
      go_ret
      exact ⟨_, rfl, by omega, G2.out, RD2.out.more (by omega)⟩
  · go_wp2
    go_ret
    exact ⟨_, rfl, by omega, G2.out, RD2.out.more (by omega)⟩
  · have hR := RD2.out.lt
    have HO := hide (of_any R (n + 2) 5 w2.heap.size 5 (strF txt5) (w2.alloc (.cells #[.string { data := #[48] }, .string { data := #[44] }, .string { data := #[32] }, .string { data := #[44, 49, 53] }, .string { data := #[58] }] 9)) (RD2.out.below (bel1 w2 _)) (by omega) (lit5s w2) (by omega) (by omega) (fun i hi => txt5_size ⟨i, hi⟩) (by omega))
    have hf : ∀ x : ByteArray, x.size ≤ 16 → ¬ 9223372036854775807 < s.size + x.size := fun x hx => by omega
    have HF := hide hf
    clear hf
    go_wp2_with fail
    refine (HO.out).mono ?_
    rintro e w3 ⟨x, rfl, hx, g3, rd3⟩
    have f1 := HF.out x hx
    have G3 := hide (gtrans (gbelow G2.out ((bel1 w2 _).mono G2.out.size)) g3)
    have R3 := hide rd3
    have hsz : (s ++ x).size ≤ 100000 := by rw [ByteArray.size_append]; omega
    clear g3 rd3 HO
    go_wp2
    go_ret
    exact ⟨_, rfl, hsz, G3.out, R3.out.more (by omega)⟩
  · go_wp2
    go_ret
    exact ⟨_, rfl, by omega, G2.out, RD2.out.more (by omega)⟩
end Go.Proofs.YtgebplpbnaeckaaGreatDoor
