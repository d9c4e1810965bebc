/- The law FnRunDesk holds at every input: the step from my walk to the given statement. Conditions: none. -/
import Derived.Test.YtgebplpbnaeckaaGreatDoorRows
import Derived.Test.YtgebplpbnaeckaaGreatDoorCards
import Derived.Test.YtgebplpbnaeckaaGreatDoorTie
import Derived.LaidMore
import Derived.Test.YtgebplpbnaeckaaGreatDoorMg24
import Derived.Lay
import Derived.Stop.Joined
import Derived.SevenTiedAt
import Derived.Test.YtgebplpbnaeckaaGreatDoorNg5
import Derived.WalkKit
import Derived.ProofKit
import Derived.OpenShut
import Derived.ShutString
import Derived.ChangeOld
import Derived.Below
import Derived.ChangeMaps5
import Derived.Stop.LaidErr
namespace Go.Proofs.YtgebplpbnaeckaaGreatDoor.fnRunDesk
open Go.ChangeShapes Go.WideShapes Go.ChangeAt Go.RowKit Go.Proofs.YtgebplpbnaeckaaGreatDoor

theorem own : ownKnob Tryz.prog.godebug = none := by kernel_rfl
theorem laidOut : laidOutB Tryz.prog = true := by kernel_rfl
theorem laidSame : Rows.fnRunDeskRow.laid = Rows.fnExactRunDeskRow.laid := rfl
theorem var_kept {W W' : World} {x : Value} (h : W.var? Tryz.prog "loop.example/jointjudgments/impl.errNoQuestion" = some #[x]) (hb : Below W.heap.size W W') : W'.var? Tryz.prog "loop.example/jointjudgments/impl.errNoQuestion" = some #[x] := by
  have hlt : 0 < W.heap.size := World.block_lt_of_cell? W ⟨0, 0, none⟩ (by simpa using World.var?_cell gNoQ h 0)
  unfold World.var? at h ⊢
  rw [gNoQ] at h ⊢
  simp only [Option.bind_some] at h ⊢
  rw [hb.block 0 hlt]
  exact h

/-- the holding world with the handle of the type error laid -/
noncomputable def handled (os : Os) : World :=
  let w0 := World.holding Tryz.prog os ⟨#[], #[], []⟩
  { w0 with heap := w0.heap.modify 1 fun
      | .cells _ t frozen => .cells #[.iface 119 (.agg #[.pointer (some ⟨10, 49, none⟩)])] t frozen
      | o => o }
/-- .. and all else that the rows list -/
noncomputable def laidD (os : Os) : World := (handled os).layVars Tryz.prog deskLaid
theorem laidD_os (os : Os) : (laidD os).os = os := (World.layVars_os _ _ _).trans rfl
theorem laidD_met (os : Os) (args : Array Value) : laidMetH Tryz.prog Rows.fnRunDeskRow.laid ((laidD os).forCall (fun _ _ => 0) ⟨#[], args, []⟩).memory := by
  refine laidMetH_of_parts ?_ (by kernel_rfl)
  have e0 : (Rows.fnRunDeskRow.laid.filter fun x => x.2.handleName?.isNone) = deskLaid := by kernel_rfl
  rw [e0]
  have e1 : (deskLaid.filter fun x => (deskLaid.map (·.1)).contains x.1) = deskLaid := List.filter_eq_self.2 fun x hx => List.contains_iff_mem.2 (List.mem_map.2 ⟨x, hx, rfl⟩)
  have e2 : (deskLaid.filter fun x => !(deskLaid.map (·.1)).contains x.1) = [] := List.filter_eq_nil_iff.2 fun x hx => by rw [List.contains_iff_mem.2 (List.mem_map.2 ⟨x, hx, rfl⟩)]; simp
  have h : laidMet Tryz.prog deskLaid (laidD os) := laidMet_layVars (w0 := handled os) (deskLaid.map (·.1)) [] (by rw [e1]; rfl) (by rw [e1]; kernel_rfl) (by rw [e1]; kernel_rfl) (by rw [e2]; exact LaidIn.none)
  exact h.of_heap (by simp [World.memory, World.forCall, Input.heap])

set_option maxRecDepth 100000 in
theorem lifted (os : Os) (started : os.Started) (H : Type) (enc : TypeId × Value → H) :
    ReturnsInHanded {} Tryz.checked os 3 .any (fun w args => (Rows.fnRunDeskSpec.pre enc Tryz.prog Tryz.f3 Rows.fnRunDeskRow.domain false w args ∧ laidMetH Tryz.prog Rows.fnRunDeskRow.laid w) ∧ sizedMet enc Tryz.prog Tryz.f3 (OpenSpec.ofChange Rows.fnRunDeskSpec) false w args) (Rows.fnRunDeskSpec.post enc Tryz.prog Tryz.f3 false true false false) := by
  refine handed_both (C := Tryz.checked) (X := fun w _ => laidMetH Tryz.prog Rows.fnRunDeskRow.laid w) (fun _ _ _ hh h => h.of_heap hh) own started (by kernel_rfl) Tryz.func3
    (ChangeSpec.witness_shaped (enc := enc) (C := Tryz.checked) (os := os) (X := fun w _ => laidMetH Tryz.prog Rows.fnRunDeskRow.laid w) false (laidD os) #[.slice none 0 0] 8 (laidD_os _)
      (World.shaped_of_ZipB (by kernel_rfl) (by kernel_rfl)) (by kernel_rfl) (by kernel_rfl) (by kernel_rfl)
      (laidD_met os _)) ?_
  intro W base args ds gs before hval0 hW hL hsh
  have hval : ∀ (j : Nat) t v, Tryz.f3.params[j]? = some t → args[j]? = some v → Value.okWide Tryz.prog W .any base t v := hval0
  have hW' := hW
  obtain ⟨p, q, hA0, hV0, rfl, hfz, hnd⟩ := hW
  have hA : DataW.TrodAll enc Tryz.prog W 0 (fun _ => true) true Tryz.f3.params.toList args.toList ds p := hA0
  have hV : DataW.TrodVars enc Tryz.prog W (fun _ => true) ["loop.example/jointjudgments/impl.errNoQuestion"] gs q := hV0
  rw [Tryz.params3] at hA hval
  obtain ⟨v0, vs0, d0, ds0, p0, q0, hargs, rfl, rfl, h0, r0⟩ := trodAll_cons hA
  obtain ⟨rfl, rfl, rfl⟩ := trodAll_nil r0
  obtain rfl : args = #[v0] := by cases args; simp_all
  obtain ⟨hdv, ea, hv⟩ := dv_of (by rw [← laidSame]; exact hL) hsh
  have vr : ∀ {X : World}, X.var? Tryz.prog "loop.example/jointjudgments/impl.errNoQuestion" = some #[.iface 221 (.pointer (some ea))] → ∀ sp : Nat → Bool, DataW.TrodVars enc Tryz.prog X sp ["loop.example/jointjudgments/impl.errNoQuestion"] [tok enc (.iface 221 (.pointer (some ea)))] [.cell 0 0] :=
    fun hx sp => vars_read1 enc gNoQ (by kernel_rfl) Tryz.underlying49 hx trivial sp
  obtain ⟨rfl, rfl⟩ := hV.unique (vr hv _)
  have k0 := h0
  have lt0 : ∀ x ∈ p0, x.block < W.heap.size := by obtain ⟨m, hm⟩ := k0; exact DataW.trod_lt m _ _ _ hm
  obtain ⟨a0, zs0, cap0, rfl, hi0, hl0, hs0⟩ := open_bytes Tryz.underlying22 Tryz.underlying5 (by kernel_rfl) (hval 0 22 v0 rfl rfl) h0
  clear hA0 hval0 hV0
  refine (walk_FnRunDesk a0 zs0 cap0 W hi0 hl0 hs0 hdv).mono fun e W' ⟨he, bel⟩ => ?_
  subst he
  exact ⟨_, rfl, _, _, _, [], _, [.cell 0 0], hW', trodAll_mk1 (shut_bool Tryz.underlying4 _), (trodAll_cons_mk (Below.trod laidOut (by kernel_rfl) (of_decide_eq_true (by kernel_rfl)) k0 bel lt0) trodAll_mk0), vr (var_kept hv bel) _, bel.frame _, fun h => by cases h⟩

theorem over : Rows.fnRunDeskRow.holds Tryz.pinned (OpenSpec.ofChange Rows.fnRunDeskSpec) :=
  OpenClaim.holds_of_wide 3 Tryz.f3 rfl rfl rfl rfl rfl rfl rfl ⟨rfl, rfl, rfl, rfl, rfl⟩ rfl rfl rfl rfl rfl (by kernel_rfl) Tryz.func3 (by kernel_rfl)
    (of_decide_eq_true (by kernel_rfl)) (by unfold Func.isWrapper; rw [if_neg (of_decide_eq_false (by kernel_rfl))]; exact ⟨rfl, rfl⟩)
    (fun os started H enc _ => lifted os started H enc)

theorem proved : Rows.FnRunDeskCardSaid :=
  Claim7.holds_tied_plain_at .later [] [.data, .data, .data, .data, .handle, .sentinel, .sentinel, .sentinel, .pinned] true (true, "3f6b77eced83ebea1dae2f3f4d3208c3afaaa9ca0412ac647a9a7c0d5823329c") true
    over (fun _ h => by cases h) (by kernel_rfl) (fun _ h => by cases h) fnRunDesk_row_tie rfl ⟨rfl, rfl⟩ (by kernel_rfl) rfl
    (fun f fn hf hfn => by
      obtain rfl : f = 3 := Option.some.inj ((show Tryz.prog.funcNamed "loop.example/jointjudgments/laws.FnRunDesk" = some 3 by kernel_rfl).symm.trans hf) |>.symm
      obtain rfl : fn = Tryz.f3 := (Option.some.inj (Tryz.func3.symm.trans hfn)).symm
      exact ⟨by kernel_rfl, fun j t ht => by
        rw [Tryz.params3] at ht
        have h3 : t = 22 := by
          rcases j with _ | j
          · simpa using ht.symm
          · simp at ht
        subst h3
        exact (show Tryz.prog.wantsStandIn 22 = false by kernel_rfl)⟩)
    (by kernel_rfl)
end Go.Proofs.YtgebplpbnaeckaaGreatDoor.fnRunDesk
