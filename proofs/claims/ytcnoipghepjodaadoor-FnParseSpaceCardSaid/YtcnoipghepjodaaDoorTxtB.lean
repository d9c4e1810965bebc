/- Texts of spaces: what is written is read back, what is read is written back. -/
import Derived.Test.YtcnoipghepjodaaDoorPrsN
import Derived.Test.YtcnoipghepjodaaDoorTxtI
namespace Go.Proofs.YtcnoipghepjodaaDoor
open Go.RowKit Go.Joins

theorem map_dec (zs : List Int) : (txtL zs).map (·.data.toList) = zs.map fun x => Lib.decDigits x.toNat := by
  unfold txtL numS
  rw [List.map_map]
  rfl
theorem spc_text {n : Int} {zs : List Int} (hv : vsB n zs = true) : (spcS n zs).data.toList = Lib.decDigits n.toNat ++ 58 :: Lib.join (zs.map fun x => Lib.decDigits x.toNat) [44] := by
  unfold spcS
  rw [if_pos hv, ← lst_all zs, map_dec]
  simp [numS, ByteArray.data_append]
theorem spc_ts {n : Int} {zs : List Int} (hv : vsB n zs = true) : TS (spcS n zs).data.toList n zs := ⟨valid_of hv, spc_text hv⟩
theorem spc_par {n : Int} {zs : List Int} (hv : vsB n zs = true) : parS (spcS n zs).data.toList = some (n, zs) := parS_iff.2 (spc_ts hv)
theorem spc_back {s : ByteArray} {n : Int} {zs : List Int} (h : parS s.data.toList = some (n, zs)) : vsB n zs = true ∧ spcS n zs = s := by
  have ht := parS_iff.1 h
  have hv := vsB_true ht.1
  refine ⟨hv, ?_⟩
  have h1 := (spc_text hv).trans ht.2.symm
  exact ByteArray.ext (Array.ext' h1)
theorem spc_size (n : Int) (zs : List Int) : (spcS n zs).size ≤ 1000 := by
  unfold spcS
  split
  · rename_i hv
    have hV := valid_of hv
    have hr := valid_range hV
    have hl := valid_len hV
    have h1 := numS_le (x := n) (by have := hV.1; omega)
    have h2 := lstS_size (zs := zs) (fun x hx => ⟨(hr x hx).1, by have := (hr x hx).2; omega⟩) zs.length (Nat.le_refl _)
    rw [ByteArray.size_append, ByteArray.size_append]
    show _ + 1 + _ ≤ _
    omega
  · exact Nat.zero_le _
theorem spc_none {n : Int} {zs : List Int} (hv : vsB n zs = false) : spcS n zs = ⟨#[]⟩ := by
  unfold spcS
  rw [if_neg (by rw [hv]; decide)]
theorem spc_some {n : Int} {zs : List Int} (hv : vsB n zs = true) : spcS n zs ≠ (⟨#[]⟩ : ByteArray) := fun e' => by
  have h := spc_text hv
  rw [e'] at h
  have := congrArg List.length h
  simp at this
theorem specText_was (n : Int) (a : Option Addr) (cap : Nat) (zs : List Int) (T : ByteArray) (w : World) (hi : Ints w a zs) (hn : zs.length ≤ 1048576) (hT : spcS n zs = T) :
    Calls Tryd.prog 9 #[.agg #[.int .i64 n, .slice a zs.length cap]] w fun e w' => e = .returned (.string T) ∧ Below w.heap.size w w' := by
  subst hT
  exact specText_any n a cap zs w hi hn
theorem implText_was (n : Int) (a : Option Addr) (cap : Nat) (zs : List Int) (T : ByteArray) (w : World) (hi : Ints w a zs) (hn : zs.length ≤ 1048576) (hT : spcS n zs = T) :
    Calls Tryd.prog 8 #[.agg #[.int .i64 n, .slice a zs.length cap]] w fun e w' => e = .returned (.string T) ∧ Below w.heap.size w w' := by
  subst hT
  exact implText_any n a cap zs w hi hn
end Go.Proofs.YtcnoipghepjodaaDoor
