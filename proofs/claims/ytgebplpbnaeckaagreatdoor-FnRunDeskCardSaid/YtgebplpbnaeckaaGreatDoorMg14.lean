/- Texts of this seat one behind the other: DskE, LdS, LdP, BkS. Conditions: none. -/
import Derived.Test.YtgebplpbnaeckaaGreatDoorMg00
import Derived.Test.YtgebplpbnaeckaaGreatDoorMg12
import Derived.Test.YtgebplpbnaeckaaGreatDoorMg05
import Derived.Test.YtgebplpbnaeckaaGreatDoorMg08
import Derived.WalkKit
import Derived.LaidEql
import Derived.Stop.Asserts
import Derived.RowKitTokens

/- DskE: errors.As at a wrongText that is asked for: what the error is, or another error. -/
namespace Go.Proofs.YtgebplpbnaeckaaGreatDoor
open Go.RowKit Go.Joins Go.Extern.Stop Go.Stop Go.Extern

theorem as_nil (t : Value) (w : World) : Calls Tryz.prog 33 #[.nilIface, t] w fun e w' => e = .returned (.bool false) ∧ w' = w := by
  go_enter Tryz.func33, Tryz.ntmps33
  go_wp2
  go_ret
  exact ⟨rfl, rfl⟩
theorem rl_valueP (t : Addr) (w : World) : (ReflectliteValue.unpack (.iface 66 (.pointer (some t)))).run Tryz.prog w
    = .ok (.agg #[.pointer (some ⟨10, 66, none⟩), .pointer (some ⟨w.heap.size, 0, none⟩), .int .u64 150]) (w.alloc (.cells #[.pointer (some t)] 66)) := by kernel_rfl
theorem rl_typeP (a : Addr) (w : World) : (ReflectliteValue.methodAny (ReflectliteValue.valueError "reflectlite.Value.Type" 0) (fun t _ _ _ => ReflectliteType.toType t) #[.agg #[.pointer (some ⟨10, 66, none⟩), .pointer (some a), .int .u64 150]]).run Tryz.prog w
    = .ok (.iface 119 (.agg #[.pointer (some ⟨10, 66, none⟩)])) w := by kernel_rfl
theorem rl_methodKind (h : Value) (w : World) : (Go.method 360 119 (.agg #[h]) "Kind").run Tryz.prog w = .ok (231, h) w := by kernel_rfl
theorem rl_kindP (w : World) : ((ReflectliteType.abiMethod fun t => (fun a : Nat => Value.int IntKind.u8 (a : Int)) <$> Rtype.kind t) #[.pointer (some ⟨10, 66, none⟩)]).run Tryz.prog w = .ok (.int .u8 22) w := by kernel_rfl
theorem rl_kindS (w : World) : ((ReflectliteType.abiMethod fun t => (fun a : Nat => Value.int IntKind.u8 (a : Int)) <$> Rtype.kind t) #[.pointer (some ⟨10, 64, none⟩)]).run Tryz.prog w = .ok (.int .u8 25) w := by kernel_rfl
theorem rlm (z : Sem Value) (f : TypeId → Addr → Nat → Nat → Sem Value) (v : Value) :
    ReflectliteValue.method z f #[v] = (do match ← ReflectliteValue.parts v with | none => z | some (t, a, fl) => f t a fl (fl % 32)) := rfl
theorem rl_partsP (a : Addr) (w : World) : (ReflectliteValue.parts (.agg #[.pointer (some ⟨10, 66, none⟩), .pointer (some a), .int .u64 150])).run Tryz.prog w = .ok (some (66, a, 150)) w := by kernel_rfl
theorem rl_isNilP (a p : Addr) (W : World) (ha : W.cell? a = some (.pointer (some p))) :
    (ReflectliteValue.method (ReflectliteValue.valueError "reflectlite.Value.IsNil" 0) ReflectliteValue.isNil #[.agg #[.pointer (some ⟨10, 66, none⟩), .pointer (some a), .int .u64 150]]).run Tryz.prog W = .ok (.bool false) W := by
  rw [rlm]
  simp only [Sem.run_bind, rl_partsP, Result.andThen]
  simp [ReflectliteValue.isNil, loadVar, isAgg, underlying, Tryz.underlying66, ha, Result.andThen]
theorem rl_methodElem (h : Value) (w : World) : (Go.method 360 119 (.agg #[h]) "Elem").run Tryz.prog w = .ok (242, .agg #[h]) w := by kernel_rfl
theorem rl_methodImplements (h : Value) (w : World) : (Go.method 360 119 (.agg #[h]) "Implements").run Tryz.prog w = .ok (243, .agg #[h]) w := by kernel_rfl
theorem rl_methodAssignableTo (h : Value) (w : World) : (Go.method 360 119 (.agg #[h]) "AssignableTo").run Tryz.prog w = .ok (240, .agg #[h]) w := by kernel_rfl
theorem rl_elemP (w : World) : (ReflectliteType.method ReflectliteType.elem #[.agg #[.pointer (some ⟨10, 66, none⟩)]]).run Tryz.prog w = .ok (.iface 119 (.agg #[.pointer (some ⟨10, 64, none⟩)])) w := by kernel_rfl
theorem rl_implementsS (w : World) : (ReflectliteType.relation "Implements" ReflectliteType.implements_ #[.agg #[.pointer (some ⟨10, 64, none⟩)], .iface 119 (.agg #[.pointer (some ⟨10, 49, none⟩)])]).run Tryz.prog w = .ok (.bool true) w := by kernel_rfl
theorem rl_typeOfS (v : Value) (w : World) : (ReflectliteType.typeOf #[.iface 64 v]).run Tryz.prog w = .ok (.iface 119 (.agg #[.pointer (some ⟨10, 64, none⟩)])) w := by kernel_rfl
theorem rl_typeOfE (v : Value) (w : World) : (ReflectliteType.typeOf #[.iface 221 v]).run Tryz.prog w = .ok (.iface 119 (.agg #[.pointer (some ⟨10, 221, none⟩)])) w := by kernel_rfl
theorem rl_assignableS (w : World) : (ReflectliteType.relation "AssignableTo" ReflectliteType.assignableTo #[.agg #[.pointer (some ⟨10, 64, none⟩)], .iface 119 (.agg #[.pointer (some ⟨10, 64, none⟩)])]).run Tryz.prog w = .ok (.bool true) w := by kernel_rfl
theorem rl_assignableE (w : World) : (ReflectliteType.relation "AssignableTo" ReflectliteType.assignableTo #[.agg #[.pointer (some ⟨10, 221, none⟩)], .iface 119 (.agg #[.pointer (some ⟨10, 64, none⟩)])]).run Tryz.prog w = .ok (.bool false) w := by kernel_rfl
theorem rl_valueS (s : ByteArray) (w : World) : (ReflectliteValue.unpack (.iface 64 (.agg #[.string s]))).run Tryz.prog w
    = .ok (.agg #[.pointer (some ⟨10, 64, none⟩), .pointer (some ⟨w.heap.size, 0, none⟩), .int .u64 153]) (w.alloc (.cells #[.string s] 64)) := by kernel_rfl
theorem rl_elemOfP (w : World) : (Rtype.elem? 66).run Tryz.prog w = .ok (some 64) w := by kernel_rfl
theorem rl_mkS (p : Addr) (w : World) : (ReflectliteValue.mk 64 p ReflectliteValue.flagAddr).run Tryz.prog w = .ok (.agg #[.pointer (some ⟨10, 64, none⟩), .pointer (some p), .int .u64 409]) w := by kernel_rfl
theorem rl_elemVP (a p : Addr) (W : World) (ha : W.cell? a = some (.pointer (some p))) :
    (ReflectliteValue.method (ReflectliteValue.valueError "reflectlite.Value.Elem" 0) ReflectliteValue.elem #[.agg #[.pointer (some ⟨10, 66, none⟩), .pointer (some a), .int .u64 150]]).run Tryz.prog W
      = .ok (.agg #[.pointer (some ⟨10, 64, none⟩), .pointer (some p), .int .u64 409]) W := by
  rw [rlm]
  simp only [Sem.run_bind, rl_partsP, Result.andThen]
  simp [ReflectliteValue.elem, loadVar, isAgg, underlying, Tryz.underlying66, ha, Result.andThen, rl_elemOfP, rl_mkS]
theorem rls (v x : Value) : ReflectliteValue.set #[v, x] = (do
    let (some (dst, a, fl), some (src, b, _)) := (← ReflectliteValue.parts v, ← ReflectliteValue.parts x)
      | unsupported (.noEntry "extern/(internal/reflectlite.Value).Set.zeroValue")
    if fl / ReflectliteValue.flagAddr % 2 == 0 then unsupported (.noEntry "extern/(internal/reflectlite.Value).Set.unaddressable")
    let val ← loadVar src b
    if ← Rtype.directlyAssignable dst src then storeVar dst a val
    else if ← Rtype.implements dst src then
      if (← Rtype.kind src) == 20 then
        match val with
        | .nilIface => unsupported (.noEntry "extern/reflectlite: a nil value of one interface type handed on as a value of another")
        | _ => storeVar dst a val
      else storeVar dst a (.iface src val)
    else panicString ("reflectlite.Set: value of type " ++ (← Rtype.spelt src) ++ " is not assignable to type " ++ (← Rtype.spelt dst))
    pure (.tuple #[])) := rfl
theorem rl_partsSa (a : Addr) (w : World) : (ReflectliteValue.parts (.agg #[.pointer (some ⟨10, 64, none⟩), .pointer (some a), .int .u64 409])).run Tryz.prog w = .ok (some (64, a, 409)) w := by kernel_rfl
theorem rl_partsS (a : Addr) (w : World) : (ReflectliteValue.parts (.agg #[.pointer (some ⟨10, 64, none⟩), .pointer (some a), .int .u64 153])).run Tryz.prog w = .ok (some (64, a, 153)) w := by kernel_rfl
theorem rl_directS (w : World) : (Rtype.directlyAssignable 64 64).run Tryz.prog w = .ok true w := by kernel_rfl
theorem rl_loadS (g : Nat) (s : ByteArray) (W : World) (hb : W.cell? ⟨g, 0, none⟩ = some (.string s)) : (loadVar 64 ⟨g, 0, none⟩).run Tryz.prog W = .ok (.agg #[.string s]) W := by
  simp [loadVar, isAgg, underlying, Tryz.underlying64, loadCells, loadCellsFrom, Addr.add, hb, Result.andThen]
theorem rl_storeS (g : Nat) (s : ByteArray) (old : Value) (W : World) (ht : W.cell? ⟨g, 0, none⟩ = some old) (hf : W.frozen? ⟨g, 0, none⟩ = false) : (storeVar 64 ⟨g, 0, none⟩ (.agg #[.string s])).run Tryz.prog W = .ok () (W.setCell ⟨g, 0, none⟩ (.string s)) := by
  simp [storeVar, Value.cells, storeCells, Addr.add, Result.andThen]
  rw [run_store Tryz.prog W _ _ _ (by rfl)]
  simp [ht, hf]
theorem rl_setS (ga gb : Nat) (s : ByteArray) (old : Value) (W : World) (hb : W.cell? ⟨gb, 0, none⟩ = some (.string s)) (ht : W.cell? ⟨ga, 0, none⟩ = some old) (hf : W.frozen? ⟨ga, 0, none⟩ = false) :
    (ReflectliteValue.set #[.agg #[.pointer (some ⟨10, 64, none⟩), .pointer (some ⟨ga, 0, none⟩), .int .u64 409], .agg #[.pointer (some ⟨10, 64, none⟩), .pointer (some ⟨gb, 0, none⟩), .int .u64 153]]).run Tryz.prog W
      = .ok (.tuple #[]) (W.setCell ⟨ga, 0, none⟩ (.string s)) := by
  rw [rls]
  simp only [Sem.run_bind, rl_partsSa, rl_partsS, Result.andThen]
  simp [ReflectliteValue.flagAddr, rl_loadS gb s W hb, rl_storeS ga s old W ht hf, Result.andThen, rl_directS]
set_option maxHeartbeats 4000000 in
theorem as_hit (s : ByteArray) (g : Nat) (old : Value) (w : World) (hg : w.cell? ⟨1, 0, none⟩ = some (.iface 119 (.agg #[.pointer (some ⟨10, 49, none⟩)]))) (ht0 : w.cell? ⟨g, 0, none⟩ = some old) (hf0 : w.frozen? ⟨g, 0, none⟩ = false) :
    Calls Tryz.prog 33 #[.iface 64 (.agg #[.string s]), .iface 66 (.pointer (some ⟨g, 0, none⟩))] w fun ev w' => ev = .returned (.bool true) ∧ Below g w w' := by
  have h6 := @run_callFunc_extern Tryz.prog 55 _ (fun args => ReflectliteValue.unpack (args.getD 0 (.tuple #[]))) Tryz.func55 (by kernel_rfl) (by kernel_rfl) (by kernel_rfl) (by kernel_rfl)
  have h7 := @run_callFunc_extern Tryz.prog 56 _ (ReflectliteValue.methodAny (ReflectliteValue.valueError "reflectlite.Value.Type" 0) (fun t _ _ _ => ReflectliteType.toType t)) Tryz.func56 (by kernel_rfl) (by kernel_rfl) (by kernel_rfl) (by kernel_rfl)
  have h8 := @run_callFunc_extern Tryz.prog 57 _ (ReflectliteValue.method (ReflectliteValue.valueError "reflectlite.Value.IsNil" 0) ReflectliteValue.isNil) Tryz.func57 (by kernel_rfl) (by kernel_rfl) (by kernel_rfl) (by kernel_rfl)
  have h27 := @run_callFunc_extern Tryz.prog 231 _ (ReflectliteType.abiMethod fun t => do pure (.int .u8 (← Rtype.kind t))) Tryz.func231 (by kernel_rfl) (by kernel_rfl) (by kernel_rfl) (by kernel_rfl)
  have h37 := @run_callFunc_extern Tryz.prog 242 _ (ReflectliteType.method ReflectliteType.elem) Tryz.func242 (by kernel_rfl) (by kernel_rfl) (by kernel_rfl) (by kernel_rfl)
  have h38 := @run_callFunc_extern Tryz.prog 243 _ (ReflectliteType.relation "Implements" ReflectliteType.implements_) Tryz.func243 (by kernel_rfl) (by kernel_rfl) (by kernel_rfl) (by kernel_rfl)
  have h10 := @run_callFunc_extern Tryz.prog 91 _ ReflectliteType.typeOf Tryz.func91 (by kernel_rfl) (by kernel_rfl) (by kernel_rfl) (by kernel_rfl)
  have h35 := @run_callFunc_extern Tryz.prog 240 _ (ReflectliteType.relation "AssignableTo" ReflectliteType.assignableTo) Tryz.func240 (by kernel_rfl) (by kernel_rfl) (by kernel_rfl) (by kernel_rfl)
  have h11 := @run_callFunc_extern Tryz.prog 92 _ (ReflectliteValue.method (ReflectliteValue.valueError "reflectlite.Value.Elem" 0) ReflectliteValue.elem) Tryz.func92 (by kernel_rfl) (by kernel_rfl) (by kernel_rfl) (by kernel_rfl)
  have h12 := @run_callFunc_extern Tryz.prog 93 _ ReflectliteValue.set Tryz.func93 (by kernel_rfl) (by kernel_rfl) (by kernel_rfl) (by kernel_rfl)
  have f6 := rl_valueP
  have f7 := rl_typeP
  have mK := rl_methodKind
  have mE := rl_methodElem
  have mI := rl_methodImplements
  have mA := rl_methodAssignableTo
  have k27 := rl_kindP
  have k25 := rl_kindS
  have e27 := rl_elemP
  have i25 := rl_implementsS
  have n8 := rl_isNilP ⟨w.heap.size, 0, none⟩ ⟨g, 0, none⟩ ((w.alloc (.cells #[.pointer (some ⟨g, 0, none⟩)] 66)).alloc (.cells #[.pointer (some ⟨10, 66, none⟩), .pointer (some ⟨w.heap.size, 0, none⟩), .int .u64 150] 95)) (by simp)
  have hlt : 1 < w.heap.size := by
    rcases Nat.lt_or_ge 1 w.heap.size with h | h
    · exact h
    · simp [World.cell?, Array.getElem?_eq_none h] at hg
  have hg2 : ((w.alloc (.cells #[.pointer (some ⟨g, 0, none⟩)] 66)).alloc (.cells #[.pointer (some ⟨10, 66, none⟩), .pointer (some ⟨w.heap.size, 0, none⟩), .int .u64 150] 95)).cell? ⟨1, 0, none⟩ = some (.iface 119 (.agg #[.pointer (some ⟨10, 49, none⟩)])) := by
    rw [World.cell?_alloc_lt _ _ ⟨1, 0, none⟩ (by simp; omega), World.cell?_alloc_lt _ _ ⟨1, 0, none⟩ hlt]; exact hg
  have tO := rl_typeOfS
  have aS := rl_assignableS
  have vS := rl_valueS
  have htl : g < w.heap.size := by
    rcases Nat.lt_or_ge g w.heap.size with h | h
    · exact h
    · simp [World.cell?, Array.getElem?_eq_none h] at ht0
  have el := rl_elemVP ⟨w.heap.size, 0, none⟩ ⟨g, 0, none⟩ (((w.alloc (.cells #[.pointer (some ⟨g, 0, none⟩)] 66)).alloc (.cells #[.pointer (some ⟨10, 66, none⟩), .pointer (some ⟨w.heap.size, 0, none⟩), .int .u64 150] 95)).alloc (.cells #[.pointer (some ⟨10, 66, none⟩), .pointer (some ⟨w.heap.size, 0, none⟩), .int .u64 150] 95)) (by rw [World.cell?_alloc_lt _ _ ⟨w.heap.size, 0, none⟩ (by simp; omega)]; simp)
  have st := rl_setS g (w.heap.size + 1 + 1 + 1) s old ((((w.alloc (.cells #[.pointer (some ⟨g, 0, none⟩)] 66)).alloc (.cells #[.pointer (some ⟨10, 66, none⟩), .pointer (some ⟨w.heap.size, 0, none⟩), .int .u64 150] 95)).alloc (.cells #[.pointer (some ⟨10, 66, none⟩), .pointer (some ⟨w.heap.size, 0, none⟩), .int .u64 150] 95)).alloc (.cells #[.string s] 64))
    (by rw [World.cell?_alloc_at _ _ _ _ (by simp)]; rfl)
    (by rw [World.cell?_alloc_lt _ _ ⟨g, 0, none⟩ (by simp; omega), World.cell?_alloc_lt _ _ ⟨g, 0, none⟩ (by simp; omega), World.cell?_alloc_lt _ _ ⟨g, 0, none⟩ (by simp; omega), World.cell?_alloc_lt _ _ ⟨g, 0, none⟩ htl]; exact ht0)
    (by rw [World.frozen?_alloc_old _ _ ⟨g, 0, none⟩ (by simp; omega), World.frozen?_alloc_old _ _ ⟨g, 0, none⟩ (by simp; omega), World.frozen?_alloc_old _ _ ⟨g, 0, none⟩ (by simp; omega), World.frozen?_alloc_old _ _ ⟨g, 0, none⟩ (Nat.ne_of_lt htl)]; exact hf0)
  go_enter Tryz.func33, Tryz.ntmps33
  go_wp2
  refine wp_loop_rounds 1 ?_
  rw [rounds_succ]
  go_wp2
  go_ret
  refine ⟨rfl, ?_⟩
  exact (((((Below.refl g w).alloc (by omega) _).alloc (by simp; omega) _).alloc (by simp; omega) _).alloc (by simp; omega) _).setCell (p := ⟨g, 0, none⟩) (Nat.le_refl _) _
theorem noAs (v : Value) (w : World) : (Instr.typeAssert (.iface 221 v) 49 124 true).run Tryz.prog w = .ok (.tuple #[.nilIface, .bool false]) w := run_typeAssert_lacksB Tryz.underlying124 (by kernel_rfl) (by kernel_rfl) v 49 w
theorem noUn (v : Value) (w : World) : (Instr.typeAssert (.iface 221 v) 49 127 true).run Tryz.prog w = .ok (.tuple #[.nilIface, .bool false]) w := run_typeAssert_lacksB Tryz.underlying127 (by kernel_rfl) (by kernel_rfl) v 49 w
theorem noUns (v : Value) (w : World) : (Instr.typeAssert (.iface 221 v) 49 129 true).run Tryz.prog w = .ok (.tuple #[.nilIface, .bool false]) w := run_typeAssert_lacksB Tryz.underlying129 (by kernel_rfl) (by kernel_rfl) v 49 w
set_option maxHeartbeats 4000000 in
theorem as_other (a : Addr) (g : Nat) (w : World) (hg : w.cell? ⟨1, 0, none⟩ = some (.iface 119 (.agg #[.pointer (some ⟨10, 49, none⟩)]))) (htl : g < w.heap.size) :
    Calls Tryz.prog 33 #[.iface 221 (.pointer (some a)), .iface 66 (.pointer (some ⟨g, 0, none⟩))] w fun ev w' => ev = .returned (.bool false) ∧ Below g w w' := by
  have h6 := @run_callFunc_extern Tryz.prog 55 _ (fun args => ReflectliteValue.unpack (args.getD 0 (.tuple #[]))) Tryz.func55 (by kernel_rfl) (by kernel_rfl) (by kernel_rfl) (by kernel_rfl)
  have h7 := @run_callFunc_extern Tryz.prog 56 _ (ReflectliteValue.methodAny (ReflectliteValue.valueError "reflectlite.Value.Type" 0) (fun t _ _ _ => ReflectliteType.toType t)) Tryz.func56 (by kernel_rfl) (by kernel_rfl) (by kernel_rfl) (by kernel_rfl)
  have h8 := @run_callFunc_extern Tryz.prog 57 _ (ReflectliteValue.method (ReflectliteValue.valueError "reflectlite.Value.IsNil" 0) ReflectliteValue.isNil) Tryz.func57 (by kernel_rfl) (by kernel_rfl) (by kernel_rfl) (by kernel_rfl)
  have h27 := @run_callFunc_extern Tryz.prog 231 _ (ReflectliteType.abiMethod fun t => do pure (.int .u8 (← Rtype.kind t))) Tryz.func231 (by kernel_rfl) (by kernel_rfl) (by kernel_rfl) (by kernel_rfl)
  have h37 := @run_callFunc_extern Tryz.prog 242 _ (ReflectliteType.method ReflectliteType.elem) Tryz.func242 (by kernel_rfl) (by kernel_rfl) (by kernel_rfl) (by kernel_rfl)
  have h38 := @run_callFunc_extern Tryz.prog 243 _ (ReflectliteType.relation "Implements" ReflectliteType.implements_) Tryz.func243 (by kernel_rfl) (by kernel_rfl) (by kernel_rfl) (by kernel_rfl)
  have h10 := @run_callFunc_extern Tryz.prog 91 _ ReflectliteType.typeOf Tryz.func91 (by kernel_rfl) (by kernel_rfl) (by kernel_rfl) (by kernel_rfl)
  have h35 := @run_callFunc_extern Tryz.prog 240 _ (ReflectliteType.relation "AssignableTo" ReflectliteType.assignableTo) Tryz.func240 (by kernel_rfl) (by kernel_rfl) (by kernel_rfl) (by kernel_rfl)
  have f6 := rl_valueP
  have f7 := rl_typeP
  have mK := rl_methodKind
  have mE := rl_methodElem
  have mI := rl_methodImplements
  have mA := rl_methodAssignableTo
  have k27 := rl_kindP
  have k25 := rl_kindS
  have e27 := rl_elemP
  have i25 := rl_implementsS
  have n8 := rl_isNilP ⟨w.heap.size, 0, none⟩ ⟨g, 0, none⟩ ((w.alloc (.cells #[.pointer (some ⟨g, 0, none⟩)] 66)).alloc (.cells #[.pointer (some ⟨10, 66, none⟩), .pointer (some ⟨w.heap.size, 0, none⟩), .int .u64 150] 95)) (by simp)
  have hlt : 1 < w.heap.size := by
    rcases Nat.lt_or_ge 1 w.heap.size with h | h
    · exact h
    · simp [World.cell?, Array.getElem?_eq_none h] at hg
  have hg2 : ((w.alloc (.cells #[.pointer (some ⟨g, 0, none⟩)] 66)).alloc (.cells #[.pointer (some ⟨10, 66, none⟩), .pointer (some ⟨w.heap.size, 0, none⟩), .int .u64 150] 95)).cell? ⟨1, 0, none⟩ = some (.iface 119 (.agg #[.pointer (some ⟨10, 49, none⟩)])) := by
    rw [World.cell?_alloc_lt _ _ ⟨1, 0, none⟩ (by simp; omega), World.cell?_alloc_lt _ _ ⟨1, 0, none⟩ hlt]; exact hg
  have tE := rl_typeOfE
  have aE := rl_assignableE
  have t1 := noAs
  have t2 := noUn
  have t3 := noUns
  go_enter Tryz.func33, Tryz.ntmps33
  go_wp2
  refine wp_loop_rounds 1 ?_
  rw [rounds_succ]
  go_wp2
  go_ret
  refine ⟨rfl, ?_⟩
  exact (((Below.refl g w).alloc (by omega) _).alloc (by simp; omega) _).alloc (by simp; omega) _
end Go.Proofs.YtgebplpbnaeckaaGreatDoor

/- LdS: Leads in the model. -/
namespace Go.Proofs.YtgebplpbnaeckaaGreatDoor
open Go.RowKit Go.Joins

set_option maxHeartbeats 8000000 in
set_option maxRecDepth 100000 in
theorem leads_any (N : Nat) (a : Option Addr) (cap : Nat) (zs : List Int) (w : World) (hi : Ints w a zs) (hn : zs.length ≤ 1048576) (hN : 1 ≤ N ∧ N ≤ 4) (hr : ∀ x ∈ zs, 0 ≤ x ∧ x ≤ 15) :
    Calls Tryz.prog 63 #[.agg #[.int .i64 (N : Int), .slice a zs.length cap]] w (Gives (ci (stI N (critL N zs) (critL N zs).length)) w) := by
  obtain ⟨i0, hi0, hz0, hz1, hz2⟩ := info_parts info_int
  have S0 := SV.new w (N : Int) a zs cap none [] 37 hi (Ints.nil _ _)
  obtain ⟨L, hL⟩ : ∃ L, L = critL N zs := ⟨_, rfl⟩
  have hl81 : L.length ≤ 81 := by
    rw [hL]
    have h1 : (ordL N).length ≤ 81 := by simpa using range5_of ord_len hN.2
    exact Nat.le_trans (List.length_filter_le _ _) h1
  have H16 : Hid (∀ p ∈ L, p.1 < 16 ∧ p.2 < 16) := fun p hp => by
    rw [hL] at hp
    exact ord_16 hN.2 (List.mem_filter.1 hp).1
  have HR := hide hr
  have HLL := hide (ofP_len L)
  have HL := hide hL
  clear hi hr
  obtain ⟨⟨_, c0, c1⟩, _⟩ := S0.pair
  go_enter Tryz.func63, Tryz.ntmps63
  go_wp2_with (at_make; refine wpList_make_full _ rfl _ _ 35 rfl (w.heap.size + 1) 3 i0 (.int .i64 0) 1 Tryz.underlying35 hi0 hz0 hz1 _ _ _ _ (2 * N) rfl rfl (by first | omega | (simp; omega)) (by first | omega | (simp; omega)) ?b2 ?b3 (by simp) ?_)
  case b2 => rw [hz2]; omega
  case b3 => unfold maxLen; omega
  intro w0 hown0 hgrow0
  rw [madeInts] at hown0
  have S1 := S0.below ((Below.refl _ _).grown hgrow0 (Nat.le_refl _) (fun k h => by cases h))
  clear c0 c1 S0 hgrow0
  obtain ⟨⟨_, c0, c1⟩, _⟩ := S1.pair
  go_wp2_with fail
  refine (critical_any N _ _ _ _ S1.2.1 hn hN HR.out).mono ?_
  rintro e w2 ⟨v, rfl, own, hb2⟩
  rw [← HL.out] at own
  obtain ⟨va, vc, hve, pin⟩ := own.form
  rw [HLL.out] at hve
  subst hve
  have hB0 : w.heap.size + 1 < w0.heap.size := (hown0.lt (w.heap.size + 1) rfl).2
  have hne := ownsP_ne own (g := w.heap.size + 1) (by omega)
  have HNE := hide hne
  have PIN := hide pin
  have D0 := hide (LDs.start hown0 hb2)
  have S2 := hide (S1.below hb2)
  obtain ⟨⟨_, d0, _⟩, _⟩ := S2.out.pair
  have DN := hide d0
  clear c0 c1 S1 own hown0 hb2 hne pin d0 hB0 hL
  go_wp2_with fail
  go_loopw [5] (fun i wr => ∃ ii : Nat, ii ≤ L.length ∧ i = .int .i64 ii ∧ LDs w2 (w.heap.size + 1) (2 * N) (stI N L ii) wr) (fun i _ => L.length - (intOf i).toNat)
  case atStart => exact ⟨0, Nat.zero_le _, rfl, D0.out⟩
  case round =>
    clear D0
    obtain ⟨ii, hii, rfl, hc⟩ := hrel
    by_cases hlt : ii < L.length
    · obtain ⟨m, hm⟩ : ∃ m, m = L[ii] := ⟨_, rfl⟩
      have h16 := H16.out L[ii] (List.getElem_mem hlt)
      rw [← hm] at h16
      have HS := hide (show stI N L (ii + 1) = stJ N m N (stI N L ii) from by rw [hm]; exact stI_succ hlt)
      obtain ⟨r0, hr0⟩ : ∃ r0, r0 = stI N L ii := ⟨_, rfl⟩
      rw [← hr0] at hc HS
      have HM := hide hm
      have H16m := hide h16
      have HC := hide hc
      have qn := hc.keep DN.out (by simp)
      clear hm h16 hr0 hc
      go_wp2_with fail
      clear qn
      go_loopw [6] (fun i wr => ∃ jj : Nat, jj ≤ N ∧ i = .int .i64 jj ∧ LDs w2 (w.heap.size + 1) (2 * N) (stJ N m jj r0) wr) (fun i _ => N - (intOf i).toNat)
      case atStart => exact ⟨0, Nat.zero_le _, rfl, HC.out⟩
      case round =>
        clear HC
        obtain ⟨j, hj, rfl, hc⟩ := hrel
        have qn := hc.keep DN.out (by simp)
        have HC := hide hc
        clear hc
        by_cases hjn : j < N
        · obtain ⟨r1, hr1⟩ : ∃ r1, r1 = stJ N m j r0 := ⟨_, rfl⟩
          have HJ := hide (stJ_succ N m j r0)
          rw [← hr1] at HC HJ
          clear hr1
          go_wp2_with fail
          clear qn
          go_loopw [7] (fun i wr => ∃ kk : Nat, kk ≤ N ∧ i = .int .i64 kk ∧ LDs w2 (w.heap.size + 1) (2 * N) (stK m j kk r1) wr) (fun i _ => N - (intOf i).toNat)
          case atStart => exact ⟨0, Nat.zero_le _, rfl, HC.out⟩
          case round =>
            clear HC
            obtain ⟨k, hk, rfl, hc⟩ := hrel
            have qn := hc.keep DN.out (by simp)
            by_cases hkn : k < N
            · obtain ⟨b1, o1, rfl, hb1, hc1⟩ := PIN.out (by rw [HLL.out]; omega)
              obtain ⟨x1, x2⟩ := hc1 ii (by rw [HLL.out]; omega)
              have hnb : b1 ≠ w.heap.size + 1 := HNE.out b1 o1 none rfl
              rw [ofP_at hlt, ← HM.out] at x1 x2
              have z1 := hc.keep x1 (by simpa using hnb)
              have z2 := hc.keep x2 (by simpa using hnb)
              clear x1 x2 hc1 hnb hb1
              obtain ⟨mc, mb⟩ := m
              have m16 := H16m.out
              obtain ⟨bj, hbj⟩ : ∃ bj, bitN mc j = bj := ⟨_, rfl⟩
              obtain ⟨bk, hbk⟩ : ∃ bk, bitN mc k = bk := ⟨_, rfl⟩
              have lbj := bitN_le mc j
              have lbk := bitN_le mc k
              have hcond : condK (mc, mb) j k = ((j != k) && ((bj == 1) && (bk == 1))) := by unfold condK; rw [hbj, hbk]
              rw [hbj] at lbj
              rw [hbk] at lbk
              have HBJ := hide hbj
              have HBK := hide hbk
              have HCD := hide hcond
              have HC := hide hc
              clear hbj hbk hcond hc
              by_cases hjk : j = k
              · subst hjk
                have hne : ((j : Int) != (j : Int)) = false := by simp
                go_wp2_with fail
                go_roundw
                case rel => exact ⟨j + 1, by omega, by go_num, by rw [stK_no (by rw [HCD.out]; simp)]; exact HC.out⟩
                case measure => simp only [intOf]; omega
              · have hne : ((j : Int) != (k : Int)) = true := by simp; omega
                have HJK := hide (show (j != k) = true from by simpa using hjk)
                clear hjk
                rcases (show bj = 0 ∨ bj = 1 from by omega) with rfl | rfl
                · go_wp2_with (go_at_call 46; refine (bit8_was mc j 0 _ (by omega) (by omega) HBJ.out).mono ?_; rintro e w' ⟨rfl, rfl⟩)
                  go_roundw
                  case rel => exact ⟨k + 1, by omega, by go_num, by rw [stK_no (by rw [HCD.out]; simp)]; exact HC.out⟩
                  case measure => simp only [intOf]; omega
                · rcases (show bk = 0 ∨ bk = 1 from by omega) with rfl | rfl
                  · go_wp2_with (go_at_call 46; (first | refine (bit8_was mc j 1 _ (by omega) (by omega) HBJ.out).mono ?_ | refine (bit8_was mc k 0 _ (by omega) (by omega) HBK.out).mono ?_); rintro e w' ⟨rfl, rfl⟩)
                    go_roundw
                    case rel => exact ⟨k + 1, by omega, by go_num, by rw [stK_no (by rw [HCD.out]; simp)]; exact HC.out⟩
                    case measure => simp only [intOf]; omega
                  · obtain ⟨f, hf⟩ : ∃ f, f = plc (mc, mb) j := ⟨_, rfl⟩
                    obtain ⟨t, ht⟩ : ∃ t, t = opp (mc, mb) k := ⟨_, rfl⟩
                    obtain ⟨ej, hej⟩ : ∃ ej, bitN mb j = ej := ⟨_, rfl⟩
                    obtain ⟨ek, hek⟩ : ∃ ek, bitN mb k = ek := ⟨_, rfl⟩
                    have lej := bitN_le mb j
                    have lek := bitN_le mb k
                    rw [hej] at lej
                    rw [hek] at lek
                    have hf1 : 2 * j + ej = f := by rw [hf]; unfold plc; rw [hej]
                    have ht1 : 2 * k + 1 - ek = t := by rw [ht]; unfold opp; rw [hek]
                    have HY := hide (show stK (mc, mb) j (k + 1) r1 = upd (stK (mc, mb) j k r1) f t from by rw [hf, ht]; exact stK_yes (by rw [HCD.out, HJK.out]; rfl))
                    have HEJ := hide hej
                    have HEK := hide hek
                    clear hf ht hej hek
                    go_wp2_with (go_at_call 46; (first | refine (bit8_was mc j 1 _ (by omega) (by omega) HBJ.out).mono ?_ | refine (bit8_was mc k 1 _ (by omega) (by omega) HBK.out).mono ?_ | refine (bit8_was mb j ej _ (by omega) (by omega) HEJ.out).mono ?_ | refine (bit8_was mb k ek _ (by omega) (by omega) HEK.out).mono ?_); rintro e w' ⟨rfl, rfl⟩)
                    clear z1 z2 qn
                    obtain ⟨u, hu⟩ : ∃ u, u = stK (mc, mb) j k r1 := ⟨_, rfl⟩
                    rw [← hu] at HC HY
                    obtain ⟨q, hq⟩ := HC.out.at (f := f) (by omega)
                    have hl := HC.out.2.2.at f
                    obtain ⟨lf, hlf⟩ : ∃ lf, u.getD f 0 = lf := ⟨_, rfl⟩
                    have hp := pow_256 (t := t) (by omega)
                    obtain ⟨pt, hpt⟩ : ∃ pt, 2 ^ t = pt := ⟨_, rfl⟩
                    rw [hlf] at q hl
                    rw [hpt] at hp
                    have hor := orL lf pt (by omega) (by omega)
                    have HP := hide hpt
                    have HLF := hide hlf
                    clear hu hpt hlf
                    have e1 : 2 * (j : Int) + (ej : Int) = (f : Int) := by omega
                    have e2 : 2 * (k : Int) + 1 - (ek : Int) = (t : Int) := by omega
                    rw [e1, e2]
                    have hf8 : f < 2 * N := by omega
                    have ht8 : t ≤ 8 := by omega
                    clear e1 e2 hf1 ht1
                    go_region_with (go_at_call 45; refine (power8_was t pt _ ht8 HP.out).mono ?_; rintro e w' ⟨rfl, rfl⟩)
                    all_goals go_wp2
                    all_goals
                      go_roundw
                      case rel => exact ⟨k + 1, by omega, by go_num, by rw [HY.out]; unfold upd; rw [HLF.out, HP.out]; exact (HC.out.drew).store (or_256 hl hp)⟩
                      case measure => simp only [intOf]; omega
            · obtain rfl : k = N := by omega
              go_wp2_with fail
              go_roundw
              case rel => exact ⟨j + 1, by omega, by go_num, by rw [HJ.out]; exact hc⟩
              case measure => simp only [intOf]; omega
        · obtain rfl : j = N := by omega
          go_wp2_with fail
          go_roundw
          case rel => exact ⟨ii + 1, by omega, by go_num, by rw [HS.out]; exact HC.out⟩
          case measure => simp only [intOf]; omega
    · obtain rfl : ii = L.length := by omega
      go_wp2_with fail
      go_ret
      refine ⟨_, rfl, ?_, ?_⟩
      · refine Owns.le (base := w.heap.size + 1) ?_ (by omega)
        have h1 := hc.1
        have h2 := hc.2.2.1
        unfold Owns
        rw [← HL.out, ci_len]
        clear hc
        generalize (stI N L L.length) = z at h1 h2 ⊢
        rw [h2]
        exact h1
      · exact bgrown S2.out.2.2.2 hc.2.1 (by omega) (fun k hk => by cases hk; omega)
end Go.Proofs.YtgebplpbnaeckaaGreatDoor

/- LdP: LeadsOf of the model. -/
namespace Go.Proofs.YtgebplpbnaeckaaGreatDoor
open Go.RowKit Go.Joins

theorem ldR_len (n : Int) (zs : List Int) : (ci (ldR n zs)).length ≤ 1048576 := by
  rw [ci_len]
  cases hv : vsB n zs with
  | false => rw [ldR_no hv]; simp
  | true =>
    have hV := (valid_of hv).1
    obtain ⟨N, hN⟩ : ∃ N : Nat, n = (N : Int) := ⟨n.toNat, by omega⟩
    subst hN
    have h4 : N ≤ 4 := by omega
    rw [ldR_yes hv, ((RB.stI h4 (critL N zs) (critL N zs).length).clK (2 * N)).1]
    omega
theorem rb_leads {N : Nat} (hN : N ≤ 4) (L : List (Nat × Nat)) : RB (2 * N) (stI N L L.length) := RB.stI hN L _
end Go.Proofs.YtgebplpbnaeckaaGreatDoor

/- BkS: IsBlocked of the model. -/
namespace Go.Proofs.YtgebplpbnaeckaaGreatDoor
open Go.RowKit Go.Joins

set_option maxHeartbeats 4000000 in
set_option maxRecDepth 100000 in
theorem blocked_any (N : Nat) (a : Option Addr) (cap : Nat) (zs : List Int) (w : World) (hi : Ints w a zs) (hn : zs.length ≤ 1048576) (hv : vsB (N : Int) zs = true) (hN : 1 ≤ N ∧ N ≤ 4) :
    Calls Tryz.prog 39 #[.agg #[.int .i64 (N : Int), .slice a zs.length cap]] w fun e w' => e = .returned (.bool (blkB (N : Int) zs)) ∧ Below w.heap.size w w' := by
  have S0 := SV.new w (N : Int) a zs cap none [] 37 hi (Ints.nil _ _)
  clear hi
  obtain ⟨⟨_, c0, c1⟩, _⟩ := S0.pair
  have HR := hide (valid_range (valid_of hv))
  have HRB := hide (rb_leads hN.2 (critL N zs))
  have HLD := hide (ldR_yes hv)
  have HV := hide hv
  have HRC := hide (ldR_rc hv)
  clear hv
  go_enter Tryz.func39, Tryz.ntmps39
  go_wp2_with fail
  refine (leads_any N _ _ _ _ S0.2.1 hn hN HR.out).mono ?_
  rintro e w2 ⟨v, rfl, own, hb⟩
  obtain ⟨va, vc, rfl, pin, _⟩ := own.form
  have S2 := hide (S0.below hb)
  have hl : (ci (stI N (critL N zs) (critL N zs).length)).length = 2 * N := by rw [ci_len]; exact HRB.out.1
  have HL := hide hl
  clear own S0 hb hl c0 c1
  go_wp2_with fail
  rw [HL.out]
  refine (closure_any (2 * N) _ _ _ _ pin HRB.out (by omega)).mono ?_
  rintro e w3 ⟨v3, rfl, own3, hb3⟩
  have B3 := hide (bnext S2.out.2.2.2 hb3)
  obtain ⟨va3, vc3, rfl, pin3, _⟩ := own3.form
  rw [← HLD.out] at pin3
  obtain ⟨R, hR⟩ : ∃ R, R = ldR (N : Int) zs := ⟨_, rfl⟩
  have hlen : (ci (clK (2 * N) (2 * N) (stI N (critL N zs) (critL N zs).length))).length = 2 * N := by rw [ci_len, ← HLD.out]; exact HRC.out.1
  have hrl : R.length = 2 * N := by rw [hR]; exact HRC.out.1
  rw [← hR] at pin3
  obtain ⟨b, off, rfl, _, hc⟩ := pin3 (by rw [ci_len, hrl]; omega)
  have hr8 : ∀ i, R.getD i 0 < 256 := fun i => by
    rw [hR]
    have h1 := HRC.out.at i
    have h2 : 2 ^ (2 * N) ≤ 2 ^ 8 := Nat.pow_le_pow_right (by omega) (by omega)
    omega
  have HC : Hid (∀ i, i < 2 * N → w3.cell? ⟨b, off + i, none⟩ = some (.int .i64 (R.getD i 0 : Nat))) := fun i hi => by
    have h1 := hc i (by rw [ci_len, hrl]; exact hi)
    rw [ci_at (by rw [hrl]; exact hi)] at h1
    exact h1
  have HR8 := hide hr8
  have HRR := hide hR
  have HLEN := hide hlen
  have NO : Hid (∀ i k : Nat, i < 2 * N → k < 2 * N → i ≠ k → bitN (R.getD i 0) k = 0 → blkB (N : Int) zs = false) := fun i k hi hk hne hb => blk_no HV.out (by simpa using hi) (by simpa using hk) hne (by rw [← HRR.out]; exact hb)
  have YES : Hid ((∀ i, i < 2 * N → ∀ k, k < 2 * N → i ≠ k → bitN (R.getD i 0) k = 1) → blkB (N : Int) zs = true) := fun h => by
    rw [blkB_yes HV.out, allB_iff, ← HRR.out]
    simpa using h
  clear own3 hb3 pin3 pin hR hlen hrl hr8 hc
  go_wp2_with fail
  rw [HLEN.out]
  go_wp2_with fail
  go_loop [4] (fun i => ∃ ii : Nat, ii ≤ 2 * N ∧ i = .int .i64 ii ∧ Hid (∀ i', i' < ii → ∀ k, k < 2 * N → i' ≠ k → bitN (R.getD i' 0) k = 1)) (fun i => 2 * N - (intOf i).toNat)
  case atStart => exact ⟨0, Nat.zero_le _, rfl, fun i' h => by omega⟩
  case round =>
    obtain ⟨ii, hii, rfl, hall⟩ := hrel
    by_cases hlt : ii < 2 * N
    · go_wp2_with fail
      go_loop [5] (fun i => ∃ kk : Nat, kk ≤ 2 * N ∧ i = .int .i64 kk ∧ Hid (∀ k, k < kk → ii ≠ k → bitN (R.getD ii 0) k = 1)) (fun i => 2 * N - (intOf i).toNat)
      case atStart => exact ⟨0, Nat.zero_le _, rfl, fun i' h => by omega⟩
      case round =>
        obtain ⟨kk, hkk, rfl, hk⟩ := hrel
        by_cases hkt : kk < 2 * N
        · have x1 := HC.out ii hlt
          have l1 := HR8.out ii
          have NO' : Hid (ii ≠ kk → bitN (R.getD ii 0) kk = 0 → blkB (N : Int) zs = false) := NO.out ii kk hlt hkt
          obtain ⟨bv, hbv⟩ : ∃ bv, bitN (R.getD ii 0) kk = bv := ⟨_, rfl⟩
          have l2 := bitN_le (R.getD ii 0) kk
          rw [hbv] at l2 NO'
          have HNX : Hid (bv = 1 → ∀ k, k < kk + 1 → ii ≠ k → bitN (R.getD ii 0) k = 1) := fun e k hk1 hne => by
            rcases Nat.lt_or_ge k kk with h | h
            · exact hk.out k h hne
            · obtain rfl : k = kk := by omega
              rw [hbv, e]
          have HNS : Hid (ii = kk → ∀ k, k < kk + 1 → ii ≠ k → bitN (R.getD ii 0) k = 1) := fun e k hk1 hne => hk.out k (by omega) hne
          obtain ⟨ri, hri⟩ : ∃ ri, R.getD ii 0 = ri := ⟨_, rfl⟩
          rw [hri] at hbv x1 l1
          have HBV := hide hbv
          clear hbv hri hk
          by_cases hik : ii = kk
          · have hne : ((ii : Int) != (kk : Int)) = false := by rw [hik]; simp
            have HIK := hide hik
            clear hik
            go_wp2_with fail
            go_round
            case rel => exact ⟨kk + 1, by omega, by go_num, HNS.out HIK.out⟩
            case measure => simp only [intOf]; omega
          · have hne : ((ii : Int) != (kk : Int)) = true := by simp; omega
            have HIK := hide hik
            clear hik
            rcases (show bv = 0 ∨ bv = 1 from by omega) with rfl | rfl
            · go_wp2_with (go_at_call 46; refine (bit8_was ri kk 0 _ (by omega) (by omega) HBV.out).mono ?_; rintro e w' ⟨rfl, rfl⟩)
              go_ret
              exact ⟨ret_bool (NO'.out HIK.out trivial).symm, B3.out⟩
            · go_wp2_with (go_at_call 46; refine (bit8_was ri kk 1 _ (by omega) (by omega) HBV.out).mono ?_; rintro e w' ⟨rfl, rfl⟩)
              go_round
              case rel => exact ⟨kk + 1, by omega, by go_num, HNX.out trivial⟩
              case measure => simp only [intOf]; omega
        · obtain rfl : kk = 2 * N := by omega
          go_wp2_with fail
          go_round
          case rel => exact ⟨ii + 1, by omega, by go_num, fun i' h k hk1 hne => by
            rcases Nat.lt_or_ge i' ii with h1 | h1
            · exact hall.out i' h1 k hk1 hne
            · obtain rfl : i' = ii := by omega
              exact hk.out k hk1 hne⟩
          case measure => simp only [intOf]; omega
    · obtain rfl : ii = 2 * N := by omega
      go_wp2_with fail
      go_ret
      exact ⟨ret_bool (YES.out hall.out).symm, B3.out⟩

end Go.Proofs.YtgebplpbnaeckaaGreatDoor
