/-
  errors.Is, of what a reading was stopped by, and of nothing. No condition.
  errors.As of what a reading was stopped by, at a number's own error type; errno. Condition: the library's variable holds the handle of the type 'error'.
  errors.As walked; errno. Condition: the library's variable holds the handle of the type 'error'.
  errors.As of what a reading was stopped by, and of a fault alone; errno. Conditions: the library's variable holds the handle of the type 'error'.
-/
import Derived.Test.YticjidkomfnihaaGreatDoorPaAhead
import Derived.LaidEql
import Derived.Stop.Asserts
import Derived.RowKitTokens
import Derived.LoopN
set_option maxHeartbeats 4000000
set_option maxRecDepth 100000
namespace Go
section
variable {P : Program} (w : World)
theorem run_equalIn_iface_int (d : Nat) {ti tn : TypeId} {ms : Array (String × TypeId)} {i : TypeInfo} {k : IntKind} (a b : Int)
   (hi : P.underlying ti = some (.interface ms)) (hn : P.underlying tn = some (.int k)) (hinfo : P.info? tn = some i) (hcomp : i.comparable = true) :
   (Op.equalIn (d + 2) ti (.iface tn (.int k a)) (.iface tn (.int k b))).run P w = .ok (a == b) w := by
 simp [Op.equalIn, run_underlying hi, run_underlying hn, typeInfo, hinfo, hcomp]
theorem run_eql_iface_int {ti tn : TypeId} {ms : Array (String × TypeId)} {i : TypeInfo} {k : IntKind} (a b : Int)
   (hi : P.underlying ti = some (.interface ms)) (hn : P.underlying tn = some (.int k)) (hinfo : P.info? tn = some i) (hcomp : i.comparable = true) :
   (binOp .eql ti (.iface tn (.int k a)) (.iface tn (.int k b))).run P w = .ok (.bool (a == b)) w := by
 simp only [binOp]
 simp [Op.equal, Op.maxDepth, run_equalIn_iface_int w 9998 a b hi hn hinfo hcomp]
end
end Go
namespace Go.Proofs.YticjidkomfnihaaGreatDoor.Pa
open Go.RowKit Go.Extern.Stop Go.Stop Go.Extern
theorem eql_fault (a b : Int) (w : World) : (binOp .eql 129 (.iface 171 (.int .i64 a)) (.iface 171 (.int .i64 b))).run Tryz.prog w = .ok (.bool (a == b)) w := by
 have hinfo : (Tryz.prog.info? 171).map (·.comparable) = some true := by kernel_rfl
 obtain ⟨i, hi, hc⟩ := Option.map_eq_some_iff.1 hinfo
 exact run_eql_iface_int w a b Tryz.underlying129 (by kernel_rfl) hi hc
theorem run_typeOf (v : Value) (w : World) : (callFunc 138 #[.iface 171 v]).run Tryz.prog w = .ok (.value (.iface 244 (.agg #[.pointer (some ⟨9, 171, none⟩)]))) w := by
 rw [@run_callFunc_extern Tryz.prog 138 _ Extern.ReflectliteType.typeOf Tryz.func138 (by kernel_rfl) (by kernel_rfl) (by kernel_rfl) (by kernel_rfl)]
 have h : (Extern.ReflectliteType.typeOf #[.iface 171 v]).run Tryz.prog w = .ok (.iface 244 (.agg #[.pointer (some ⟨9, 171, none⟩)])) w := by kernel_rfl
 rw [h]; rfl
theorem run_comparable (w : World) : (callFunc 238 #[.agg #[.pointer (some ⟨9, 171, none⟩)]]).run Tryz.prog w = .ok (.value (.bool true)) w := by
 rw [@run_callFunc_extern Tryz.prog 238 _ (Extern.ReflectliteType.method fun t => do Extern.Rtype.noPackHeld "Comparable" t; pure (.bool (<- typeInfo t).comparable)) Tryz.func238 (by kernel_rfl) (by kernel_rfl) (by kernel_rfl) (by kernel_rfl)]
 have h : ((Extern.ReflectliteType.method fun t => do Extern.Rtype.noPackHeld "Comparable" t; pure (.bool (<- typeInfo t).comparable)) #[.agg #[.pointer (some ⟨9, 171, none⟩)]]).run Tryz.prog w = .ok (.bool true) w := by kernel_rfl
 rw [h]; rfl
theorem is_mcomp (n : Nat) (h : Value) (w : World) : (Go.method (n + 1) 244 (.agg #[h]) "Comparable").run Tryz.prog w = .ok (238, .agg #[h]) w := by kernel_rfl
theorem no_is_stop (v : Value) (xT : TypeId) (w : World) : (Instr.typeAssert (.iface 213 v) xT 246 true).run Tryz.prog w = .ok (.tuple #[.nilIface, .bool false]) w := run_typeAssert_lacksB Tryz.underlying246 (by kernel_rfl) (by kernel_rfl) v xT w
theorem no_is_fault (v : Value) (xT : TypeId) (w : World) : (Instr.typeAssert (.iface 171 v) xT 246 true).run Tryz.prog w = .ok (.tuple #[.nilIface, .bool false]) w := run_typeAssert_lacksB Tryz.underlying246 (by kernel_rfl) (by kernel_rfl) v xT w
theorem has_unwrap_stop (v : Value) (xT : TypeId) (w : World) : (Instr.typeAssert (.iface 213 v) xT 249 true).run Tryz.prog w = .ok (.tuple #[.iface 213 v, .bool true]) w := run_typeAssert_hasB Tryz.underlying249 (by kernel_rfl) v xT w
theorem no_unwrap_fault (v : Value) (xT : TypeId) (w : World) : (Instr.typeAssert (.iface 171 v) xT 249 true).run Tryz.prog w = .ok (.tuple #[.nilIface, .bool false]) w := run_typeAssert_lacksB Tryz.underlying249 (by kernel_rfl) (by kernel_rfl) v xT w
theorem no_unwraps_fault (v : Value) (xT : TypeId) (w : World) : (Instr.typeAssert (.iface 171 v) xT 250 true).run Tryz.prog w = .ok (.tuple #[.nilIface, .bool false]) w := run_typeAssert_lacksB Tryz.underlying250 (by kernel_rfl) (by kernel_rfl) v xT w
theorem m_unwrap (n : Nat) (a b : Value) (w : World) : (Go.method (n + 1) 213 (.agg #[a, b]) "Unwrap").run Tryz.prog w = .ok (232, .agg #[a, b]) w := by kernel_rfl
theorem unwrap_any (a b : Value) (w : World) : Calls Tryz.prog 232 #[.agg #[a, b]] w fun e w' => e = .returned b /\ Below w.heap.size w w' := by
 go_enter Tryz.func232, Tryz.ntmps232
 go_wp2
 go_ret
 exact ⟨rfl, X.later_alloc _ _⟩
theorem is_stop (k n m : Int) (w : World) : Calls Tryz.prog 102 #[stopV k n, .iface 171 (.int .i64 m)] w fun e w' => e = .returned (.bool (n == m)) /\ Below w.heap.size w w' := by
 have tT := run_typeOf
 have cT := run_comparable
 have mR := is_mcomp
 have a1 := no_is_stop
 have a2 := no_is_fault
 have a3 := has_unwrap_stop
 have a4 := no_unwrap_fault
 have a5 := no_unwraps_fault
 have mU := m_unwrap
 have heq := eql_fault
 have hty := fun (v1 v2 : Value) w => run_eql_iface_types (P := Tryz.prog) 213 171 v1 v2 Tryz.underlying129 (by decide) w
 unfold stopV
 cases hnm : (n == m)
 all_goals
   go_enter Tryz.func102, Tryz.ntmps102
   go_wp2_with (first | (go_at_call 139; go_in) | (go_at_call 232; refine (unwrap_any _ _ _).mono ?_; rintro e w2 ⟨rfl, hb2⟩))
   refine wp_loop_rounds 2 ?_
   rw [rounds_succ]
   go_wp2_with (first | (go_at_call 232; refine (unwrap_any _ _ _).mono ?_; rintro e w2 ⟨rfl, hb2⟩; replace hb2 := Lib.hid hb2))
   rw [rounds_succ]
   go_wp2_with fail
   go_ret
   exact ⟨rfl, hb2.out⟩
theorem as_valueOfP (t : Addr) (w : World) : (callFunc 140 #[.iface 173 (.pointer (some t))]).run Tryz.prog w
   = .ok (.value (.agg #[.pointer (some ⟨9, 173, none⟩), .pointer (some ⟨w.heap.size, 0, none⟩), .int .u64 150])) (w.alloc (.cells #[.pointer (some t)] 173)) := by
 rw [@run_callFunc_extern Tryz.prog 140 _ (fun args => ReflectliteValue.unpack (args.getD 0 (.tuple #[]))) Tryz.func140 (by kernel_rfl) (by kernel_rfl) (by kernel_rfl) (by kernel_rfl)]
 have h : (ReflectliteValue.unpack (.iface 173 (.pointer (some t)))).run Tryz.prog w = .ok (.agg #[.pointer (some ⟨9, 173, none⟩), .pointer (some ⟨w.heap.size, 0, none⟩), .int .u64 150]) (w.alloc (.cells #[.pointer (some t)] 173)) := by kernel_rfl
 show (Sem.run Tryz.prog (ReflectliteValue.unpack (.iface 173 (.pointer (some t)))) w).andThen _ = _
 rw [h]; rfl
theorem as_valueOfF (n : Int) (w : World) : (callFunc 140 #[.iface 171 (.int .i64 n)]).run Tryz.prog w
   = .ok (.value (.agg #[.pointer (some ⟨9, 171, none⟩), .pointer (some ⟨w.heap.size, 0, none⟩), .int .u64 130])) (w.alloc (.cells #[.int .i64 n] 171)) := by
 rw [@run_callFunc_extern Tryz.prog 140 _ (fun args => ReflectliteValue.unpack (args.getD 0 (.tuple #[]))) Tryz.func140 (by kernel_rfl) (by kernel_rfl) (by kernel_rfl) (by kernel_rfl)]
 have h : (ReflectliteValue.unpack (.iface 171 (.int .i64 n))).run Tryz.prog w = .ok (.agg #[.pointer (some ⟨9, 171, none⟩), .pointer (some ⟨w.heap.size, 0, none⟩), .int .u64 130]) (w.alloc (.cells #[.int .i64 n] 171)) := by kernel_rfl
 show (Sem.run Tryz.prog (ReflectliteValue.unpack (.iface 171 (.int .i64 n))) w).andThen _ = _
 rw [h]; rfl
def hdl (t : Nat) : Value := .pointer (some ⟨9, t, none⟩)
theorem as_type (a : Addr) (w : World) : (callFunc 141 #[.agg #[.pointer (some ⟨9, 173, none⟩), .pointer (some a), .int .u64 150]]).run Tryz.prog w = .ok (.value (.iface 244 (.agg #[.pointer (some ⟨9, 173, none⟩)]))) w := by
 rw [@run_callFunc_extern Tryz.prog 141 _ (ReflectliteValue.methodAny (ReflectliteValue.valueError "reflectlite.Value.Type" 0) (fun t _ _ _ => ReflectliteType.toType t)) Tryz.func141 (by kernel_rfl) (by kernel_rfl) (by kernel_rfl) (by kernel_rfl)]
 have h : (ReflectliteValue.methodAny (ReflectliteValue.valueError "reflectlite.Value.Type" 0) (fun t _ _ _ => ReflectliteType.toType t) #[.agg #[.pointer (some ⟨9, 173, none⟩), .pointer (some a), .int .u64 150]]).run Tryz.prog w = .ok (.iface 244 (.agg #[.pointer (some ⟨9, 173, none⟩)])) w := by kernel_rfl
 rw [h]; rfl
theorem as_mkind (n : Nat) (h : Value) (w : World) : (Go.method (n + 1) 244 (.agg #[h]) "Kind").run Tryz.prog w = .ok (220, h) w := by kernel_rfl
theorem as_melem (n : Nat) (h : Value) (w : World) : (Go.method (n + 1) 244 (.agg #[h]) "Elem").run Tryz.prog w = .ok (239, .agg #[h]) w := by kernel_rfl
theorem as_mimpl (n : Nat) (h : Value) (w : World) : (Go.method (n + 1) 244 (.agg #[h]) "Implements").run Tryz.prog w = .ok (240, .agg #[h]) w := by kernel_rfl
theorem as_massign (n : Nat) (h : Value) (w : World) : (Go.method (n + 1) 244 (.agg #[h]) "AssignableTo").run Tryz.prog w = .ok (237, .agg #[h]) w := by kernel_rfl
theorem as_kindP (w : World) : (callFunc 220 #[.pointer (some ⟨9, 173, none⟩)]).run Tryz.prog w = .ok (.value (.int .u8 22)) w := by
 rw [@run_callFunc_extern Tryz.prog 220 _ (ReflectliteType.abiMethod fun t => do pure (.int .u8 (<- Rtype.kind t))) Tryz.func220 (by kernel_rfl) (by kernel_rfl) (by kernel_rfl) (by kernel_rfl)]
 have h : ((ReflectliteType.abiMethod fun t => do pure (.int .u8 (<- Rtype.kind t))) #[.pointer (some ⟨9, 173, none⟩)]).run Tryz.prog w = .ok (.int .u8 22) w := by kernel_rfl
 rw [h]; rfl
theorem as_kindF (w : World) : (callFunc 220 #[.pointer (some ⟨9, 171, none⟩)]).run Tryz.prog w = .ok (.value (.int .u8 2)) w := by
 rw [@run_callFunc_extern Tryz.prog 220 _ (ReflectliteType.abiMethod fun t => do pure (.int .u8 (<- Rtype.kind t))) Tryz.func220 (by kernel_rfl) (by kernel_rfl) (by kernel_rfl) (by kernel_rfl)]
 have h : ((ReflectliteType.abiMethod fun t => do pure (.int .u8 (<- Rtype.kind t))) #[.pointer (some ⟨9, 171, none⟩)]).run Tryz.prog w = .ok (.int .u8 2) w := by kernel_rfl
 rw [h]; rfl
theorem as_elem (w : World) : (callFunc 239 #[.agg #[.pointer (some ⟨9, 173, none⟩)]]).run Tryz.prog w = .ok (.value (.iface 244 (.agg #[.pointer (some ⟨9, 171, none⟩)]))) w := by
 rw [@run_callFunc_extern Tryz.prog 239 _ (ReflectliteType.method ReflectliteType.elem) Tryz.func239 (by kernel_rfl) (by kernel_rfl) (by kernel_rfl) (by kernel_rfl)]
 have h : (ReflectliteType.method ReflectliteType.elem #[.agg #[.pointer (some ⟨9, 173, none⟩)]]).run Tryz.prog w = .ok (.iface 244 (.agg #[.pointer (some ⟨9, 171, none⟩)])) w := by kernel_rfl
 rw [h]; rfl
theorem as_impl (w : World) : (callFunc 240 #[.agg #[.pointer (some ⟨9, 171, none⟩)], .iface 244 (.agg #[.pointer (some ⟨9, 129, none⟩)])]).run Tryz.prog w = .ok (.value (.bool true)) w := by
 rw [@run_callFunc_extern Tryz.prog 240 _ (ReflectliteType.relation "Implements" ReflectliteType.implements_) Tryz.func240 (by kernel_rfl) (by kernel_rfl) (by kernel_rfl) (by kernel_rfl)]
 have h : (ReflectliteType.relation "Implements" ReflectliteType.implements_ #[.agg #[.pointer (some ⟨9, 171, none⟩)], .iface 244 (.agg #[.pointer (some ⟨9, 129, none⟩)])]).run Tryz.prog w = .ok (.bool true) w := by kernel_rfl
 rw [h]; rfl
theorem as_assignF (w : World) : (callFunc 237 #[.agg #[.pointer (some ⟨9, 171, none⟩)], .iface 244 (.agg #[.pointer (some ⟨9, 171, none⟩)])]).run Tryz.prog w = .ok (.value (.bool true)) w := by
 rw [@run_callFunc_extern Tryz.prog 237 _ (ReflectliteType.relation "AssignableTo" ReflectliteType.assignableTo) Tryz.func237 (by kernel_rfl) (by kernel_rfl) (by kernel_rfl) (by kernel_rfl)]
 have h : (ReflectliteType.relation "AssignableTo" ReflectliteType.assignableTo #[.agg #[.pointer (some ⟨9, 171, none⟩)], .iface 244 (.agg #[.pointer (some ⟨9, 171, none⟩)])]).run Tryz.prog w = .ok (.bool true) w := by kernel_rfl
 rw [h]; rfl
theorem as_assignS (w : World) : (callFunc 237 #[.agg #[.pointer (some ⟨9, 213, none⟩)], .iface 244 (.agg #[.pointer (some ⟨9, 171, none⟩)])]).run Tryz.prog w = .ok (.value (.bool false)) w := by
 rw [@run_callFunc_extern Tryz.prog 237 _ (ReflectliteType.relation "AssignableTo" ReflectliteType.assignableTo) Tryz.func237 (by kernel_rfl) (by kernel_rfl) (by kernel_rfl) (by kernel_rfl)]
 have h : (ReflectliteType.relation "AssignableTo" ReflectliteType.assignableTo #[.agg #[.pointer (some ⟨9, 213, none⟩)], .iface 244 (.agg #[.pointer (some ⟨9, 171, none⟩)])]).run Tryz.prog w = .ok (.bool false) w := by kernel_rfl
 rw [h]; rfl
theorem run_typeOfS (v : Value) (w : World) : (callFunc 138 #[.iface 213 v]).run Tryz.prog w = .ok (.value (.iface 244 (.agg #[.pointer (some ⟨9, 213, none⟩)]))) w := by
 rw [@run_callFunc_extern Tryz.prog 138 _ Extern.ReflectliteType.typeOf Tryz.func138 (by kernel_rfl) (by kernel_rfl) (by kernel_rfl) (by kernel_rfl)]
 have h : (Extern.ReflectliteType.typeOf #[.iface 213 v]).run Tryz.prog w = .ok (.iface 244 (.agg #[.pointer (some ⟨9, 213, none⟩)])) w := by kernel_rfl
 rw [h]; rfl
theorem no_as_stop (v : Value) (xT : TypeId) (w : World) : (Instr.typeAssert (.iface 213 v) xT 255 true).run Tryz.prog w = .ok (.tuple #[.nilIface, .bool false]) w := run_typeAssert_lacksB Tryz.underlying255 (by kernel_rfl) (by kernel_rfl) v xT w
theorem rlm (z : Sem Value) (f : TypeId -> Addr -> Nat -> Nat -> Sem Value) (v : Value) :
   ReflectliteValue.method z f #[v] = (do match <- ReflectliteValue.parts v with | none => z | some (t, a, fl) => f t a fl (fl % 32)) := rfl
theorem as_partsP (a : Addr) (w : World) : (ReflectliteValue.parts (.agg #[.pointer (some ⟨9, 173, none⟩), .pointer (some a), .int .u64 150])).run Tryz.prog w = .ok (some (173, a, 150)) w := by kernel_rfl
theorem as_isNil (a p : Addr) (W : World) (ha : W.cell? a = some (.pointer (some p))) :
   (callFunc 142 #[.agg #[.pointer (some ⟨9, 173, none⟩), .pointer (some a), .int .u64 150]]).run Tryz.prog W = .ok (.value (.bool false)) W := by
 rw [@run_callFunc_extern Tryz.prog 142 _ (ReflectliteValue.method (ReflectliteValue.valueError "reflectlite.Value.IsNil" 0) ReflectliteValue.isNil) Tryz.func142 (by kernel_rfl) (by kernel_rfl) (by kernel_rfl) (by kernel_rfl)]
 rw [rlm]
 simp only [Sem.run_bind, as_partsP, Result.andThen]
 simp [ReflectliteValue.isNil, loadVar, isAgg, underlying, Tryz.underlying173, ha, Result.andThen]
theorem as_elemOf (w : World) : (Rtype.elem? 173).run Tryz.prog w = .ok (some 171) w := by kernel_rfl
theorem as_mk (p : Addr) (w : World) : (ReflectliteValue.mk 171 p ReflectliteValue.flagAddr).run Tryz.prog w = .ok (.agg #[.pointer (some ⟨9, 171, none⟩), .pointer (some p), .int .u64 386]) w := by kernel_rfl
theorem as_elemV (a p : Addr) (W : World) (ha : W.cell? a = some (.pointer (some p))) :
   (callFunc 168 #[.agg #[.pointer (some ⟨9, 173, none⟩), .pointer (some a), .int .u64 150]]).run Tryz.prog W = .ok (.value (.agg #[.pointer (some ⟨9, 171, none⟩), .pointer (some p), .int .u64 386])) W := by
 rw [@run_callFunc_extern Tryz.prog 168 _ (ReflectliteValue.method (ReflectliteValue.valueError "reflectlite.Value.Elem" 0) ReflectliteValue.elem) Tryz.func168 (by kernel_rfl) (by kernel_rfl) (by kernel_rfl) (by kernel_rfl)]
 rw [rlm]
 simp only [Sem.run_bind, as_partsP, Result.andThen]
 simp [ReflectliteValue.elem, loadVar, isAgg, underlying, Tryz.underlying173, ha, Result.andThen, as_elemOf, as_mk]
theorem as_partsFa (a : Addr) (w : World) : (ReflectliteValue.parts (.agg #[.pointer (some ⟨9, 171, none⟩), .pointer (some a), .int .u64 386])).run Tryz.prog w = .ok (some (171, a, 386)) w := by kernel_rfl
theorem as_partsF (a : Addr) (w : World) : (ReflectliteValue.parts (.agg #[.pointer (some ⟨9, 171, none⟩), .pointer (some a), .int .u64 130])).run Tryz.prog w = .ok (some (171, a, 130)) w := by kernel_rfl
theorem as_direct (w : World) : (Rtype.directlyAssignable 171 171).run Tryz.prog w = .ok true w := by kernel_rfl
theorem as_set (ta b : Addr) (n : Int) (old : Value) (W : World) (hb : W.cell? b = some (.int .i64 n)) (ht : W.cell? ta = some old) (hf : W.frozen? ta = false) :
   (callFunc 169 #[.agg #[.pointer (some ⟨9, 171, none⟩), .pointer (some ta), .int .u64 386], .agg #[.pointer (some ⟨9, 171, none⟩), .pointer (some b), .int .u64 130]]).run Tryz.prog W = .ok (.value (.tuple #[])) (W.setCell ta (.int .i64 n)) := by
 rw [@run_callFunc_extern Tryz.prog 169 _ ReflectliteValue.set Tryz.func169 (by kernel_rfl) (by kernel_rfl) (by kernel_rfl) (by kernel_rfl)]
 rw [show ∀ v x, ReflectliteValue.set #[v, x] = (ReflectliteValue.parts v >>= _) from fun _ _ => rfl]
 simp only [Sem.run_bind, as_partsFa, as_partsF, Result.andThen, Array.getLit, List.getElem_toArray, List.getElem_cons_succ, List.getElem_cons_zero]
 simp [ReflectliteValue.flagAddr, loadVar, isAgg, underlying, hb, Result.andThen, as_direct, storeVar, Value.cells, storeCells, Addr.add, Tryz.underlying171]
 rw [run_store Tryz.prog W ta _ _ (by rfl)]
 simp [ht, hf]
def ErrT (w : World) : Prop := w.cell? ⟨1, 0, none⟩ = some (.iface 244 (.agg #[.pointer (some ⟨9, 129, none⟩)]))
theorem ErrT.lt {w : World} (h : ErrT w) : 1 < w.heap.size := World.block_lt_of_cell? w _ h
theorem ErrT.later {w w' : World} (h : ErrT w) (hb : Below w.heap.size w w') : ErrT w' := (hb.cell (p := ⟨1, 0, none⟩) h.lt).trans h
def faultV (n : Int) : Value := .iface 171 (.int .i64 n)
theorem as_fault (n : Int) (tb : Nat) (old : Value) (w : World) (hE : ErrT w) (ht0 : w.cell? ⟨tb, 0, none⟩ = some old) (hf0 : w.frozen? ⟨tb, 0, none⟩ = false) :
   Calls Tryz.prog 103 #[.iface 171 (.int .i64 n), .iface 173 (.pointer (some ⟨tb, 0, none⟩))] w fun ev w' => ev = .returned (.bool true) /\ w'.cell? ⟨tb, 0, none⟩ = some (.int .i64 n) /\ Below tb w w' := by
 have f6 := as_valueOfP
 have f6f := as_valueOfF
 have f7 := as_type
 have mK := as_mkind
 have mE := as_melem
 have mI := as_mimpl
 have mA := as_massign
 have kP := as_kindP
 have kF := as_kindF
 have e37 := as_elem
 have i38 := as_impl
 have aF := as_assignF
 have tO := run_typeOf
 have hlt0 : 0 < w.heap.size := Nat.lt_of_le_of_lt (Nat.zero_le _) hE.lt
 have htl : tb < w.heap.size := World.block_lt_of_cell? w _ ht0
 have n8 := as_isNil ⟨w.heap.size, 0, none⟩ ⟨tb, 0, none⟩ ((w.alloc (.cells #[.pointer (some ⟨tb, 0, none⟩)] 173)).alloc (.cells #[.pointer (some ⟨9, 173, none⟩), .pointer (some ⟨w.heap.size, 0, none⟩), .int .u64 150] 221)) (by simp)
 have hg2 : ((w.alloc (.cells #[.pointer (some ⟨tb, 0, none⟩)] 173)).alloc (.cells #[.pointer (some ⟨9, 173, none⟩), .pointer (some ⟨w.heap.size, 0, none⟩), .int .u64 150] 221)).cell? ⟨1, 0, none⟩ = some (.iface 244 (.agg #[.pointer (some ⟨9, 129, none⟩)])) := (hE.later (X.later_alloc w _)).later (X.later_alloc _ _)
 have el := as_elemV ⟨w.heap.size, 0, none⟩ ⟨tb, 0, none⟩ (((w.alloc (.cells #[.pointer (some ⟨tb, 0, none⟩)] 173)).alloc (.cells #[.pointer (some ⟨9, 173, none⟩), .pointer (some ⟨w.heap.size, 0, none⟩), .int .u64 150] 221)).alloc (.cells #[.pointer (some ⟨9, 173, none⟩), .pointer (some ⟨w.heap.size, 0, none⟩), .int .u64 150] 221)) (by rw [World.cell?_alloc_lt _ _ ⟨w.heap.size, 0, none⟩ (by simp; omega)]; simp)
 have st := as_set ⟨tb, 0, none⟩ ⟨w.heap.size + 1 + 1 + 1, 0, none⟩ n old ((((w.alloc (.cells #[.pointer (some ⟨tb, 0, none⟩)] 173)).alloc (.cells #[.pointer (some ⟨9, 173, none⟩), .pointer (some ⟨w.heap.size, 0, none⟩), .int .u64 150] 221)).alloc (.cells #[.pointer (some ⟨9, 173, none⟩), .pointer (some ⟨w.heap.size, 0, none⟩), .int .u64 150] 221)).alloc (.cells #[.int .i64 n] 171))
   (by rw [World.cell?_alloc_at _ _ _ _ (by simp)]; rfl)
   (by rw [World.cell?_alloc_lt _ _ ⟨tb, 0, none⟩ (by simp; omega), World.cell?_alloc_lt _ _ ⟨tb, 0, none⟩ (by simp; omega), World.cell?_alloc_lt _ _ ⟨tb, 0, none⟩ (by simp; omega), World.cell?_alloc_lt _ _ ⟨tb, 0, none⟩ htl]; exact ht0)
   (by rw [World.frozen?_alloc_old _ _ ⟨tb, 0, none⟩ (by simp; omega), World.frozen?_alloc_old _ _ ⟨tb, 0, none⟩ (by simp; omega), World.frozen?_alloc_old _ _ ⟨tb, 0, none⟩ (by simp; omega), World.frozen?_alloc_old _ _ ⟨tb, 0, none⟩ (Nat.ne_of_lt htl)]; exact hf0)
 go_enter Tryz.func103, Tryz.ntmps103
 go_wp2_with (go_at_call 143; go_in)
 refine wp_loop_rounds 1 ?_
 rw [rounds_succ]
 go_wp2_with fail
 go_ret
 refine ⟨rfl, World.cell?_setCell_same _ _ _ (by
   rw [World.cell?_alloc_lt _ _ ⟨tb, 0, none⟩ (by simp; omega), World.cell?_alloc_lt _ _ ⟨tb, 0, none⟩ (by simp; omega), World.cell?_alloc_lt _ _ ⟨tb, 0, none⟩ (by simp; omega), World.cell?_alloc_lt _ _ ⟨tb, 0, none⟩ htl]; exact ht0), ?_⟩
 exact (((((Below.refl tb w).alloc (Nat.le_of_lt htl) _).alloc (by simp; omega) _).alloc (by simp; omega) _).alloc (by simp; omega) _).setCell (p := ⟨tb, 0, none⟩) (Nat.le_refl _) _
theorem as_stop (k n : Int) (tb : Nat) (old : Value) (w : World) (hE : ErrT w) (ht0 : w.cell? ⟨tb, 0, none⟩ = some old) (hf0 : w.frozen? ⟨tb, 0, none⟩ = false) :
   Calls Tryz.prog 103 #[stopV k n, .iface 173 (.pointer (some ⟨tb, 0, none⟩))] w fun ev w' => ev = .returned (.bool true) /\ w'.cell? ⟨tb, 0, none⟩ = some (.int .i64 n) /\ Below tb w w' := by
 have f6 := as_valueOfP
 have f6f := as_valueOfF
 have f7 := as_type
 have mK := as_mkind
 have mE := as_melem
 have mI := as_mimpl
 have mA := as_massign
 have kP := as_kindP
 have kF := as_kindF
 have e37 := as_elem
 have i38 := as_impl
 have aF := as_assignF
 have tO := run_typeOf
 have tS := run_typeOfS
 have aS := as_assignS
 have a1 := no_as_stop
 have a3 := has_unwrap_stop
 have mU := m_unwrap
 have hlt0 : 0 < w.heap.size := Nat.lt_of_le_of_lt (Nat.zero_le _) hE.lt
 have htl : tb < w.heap.size := World.block_lt_of_cell? w _ ht0
 have n8 := as_isNil ⟨w.heap.size, 0, none⟩ ⟨tb, 0, none⟩ ((w.alloc (.cells #[.pointer (some ⟨tb, 0, none⟩)] 173)).alloc (.cells #[.pointer (some ⟨9, 173, none⟩), .pointer (some ⟨w.heap.size, 0, none⟩), .int .u64 150] 221)) (by simp)
 have hg2 : ((w.alloc (.cells #[.pointer (some ⟨tb, 0, none⟩)] 173)).alloc (.cells #[.pointer (some ⟨9, 173, none⟩), .pointer (some ⟨w.heap.size, 0, none⟩), .int .u64 150] 221)).cell? ⟨1, 0, none⟩ = some (.iface 244 (.agg #[.pointer (some ⟨9, 129, none⟩)])) := (hE.later (X.later_alloc w _)).later (X.later_alloc _ _)
 unfold stopV
 go_enter Tryz.func103, Tryz.ntmps103
 go_wp2_with (go_at_call 143; go_in)
 refine wp_loop_rounds 2 ?_
 rw [rounds_succ]
 go_wp2_with fail
 obtain ⟨W, hW⟩ : ∃ W, (((w.alloc (.cells #[.pointer (some ⟨tb, 0, none⟩)] 173)).alloc (.cells #[.pointer (some ⟨9, 173, none⟩), .pointer (some ⟨w.heap.size, 0, none⟩), .int .u64 150] 221)).alloc (.cells #[.pointer (some ⟨9, 173, none⟩), .pointer (some ⟨w.heap.size, 0, none⟩), .int .u64 150] 221)) = W := ⟨_, rfl⟩
 have hWz : W.heap.size = w.heap.size + 1 + 1 + 1 := by rw [<- hW]; simp
 have hB : Below tb w W := by rw [<- hW]; exact (((Below.refl tb w).alloc (Nat.le_of_lt htl) _).alloc (by simp; omega) _).alloc (by simp; omega) _
 have hc0 : W.cell? ⟨w.heap.size, 0, none⟩ = some (.pointer (some ⟨tb, 0, none⟩)) := by rw [<- hW, World.cell?_alloc_lt _ _ ⟨w.heap.size, 0, none⟩ (by simp; omega)]; simp
 have hcv : W.cell? ⟨w.heap.size + 1 + 1, 0, none⟩ = some (.pointer (some ⟨9, 173, none⟩)) /\ W.cell? ⟨w.heap.size + 1 + 1, 1, none⟩ = some (.pointer (some ⟨w.heap.size, 0, none⟩)) /\ W.cell? ⟨w.heap.size + 1 + 1, 2, none⟩ = some (.int .u64 150) := by
   rw [<- hW]
   refine ⟨?_, ?_, ?_⟩ <;> rw [World.cell?_alloc_at _ _ _ _ (by simp)] <;> rfl
 have ht1 : W.cell? ⟨tb, 0, none⟩ = some old := by rw [<- hW, World.cell?_alloc_lt _ _ ⟨tb, 0, none⟩ (by simp; omega), World.cell?_alloc_lt _ _ ⟨tb, 0, none⟩ (by simp; omega), World.cell?_alloc_lt _ _ ⟨tb, 0, none⟩ htl]; exact ht0
 have hf1 : W.frozen? ⟨tb, 0, none⟩ = false := by rw [<- hW, World.frozen?_alloc_old _ _ ⟨tb, 0, none⟩ (by simp; omega), World.frozen?_alloc_old _ _ ⟨tb, 0, none⟩ (by simp; omega), World.frozen?_alloc_old _ _ ⟨tb, 0, none⟩ (Nat.ne_of_lt htl)]; exact hf0
 rw [hW]
 clear hW n8 hg2 ht0 hf0
 refine (unwrap_any _ _ _).mono ?_
 rintro e w2 ⟨rfl, hb2⟩
 have e0 := (hb2.cell (p := ⟨w.heap.size, 0, none⟩) (by show w.heap.size < _; omega)).trans hc0
 have e1 := (hb2.cell (p := ⟨w.heap.size + 1 + 1, 0, none⟩) (by show w.heap.size + 1 + 1 < _; omega)).trans hcv.1
 have e2 := (hb2.cell (p := ⟨w.heap.size + 1 + 1, 1, none⟩) (by show w.heap.size + 1 + 1 < _; omega)).trans hcv.2.1
 have e3 := (hb2.cell (p := ⟨w.heap.size + 1 + 1, 2, none⟩) (by show w.heap.size + 1 + 1 < _; omega)).trans hcv.2.2
 have e4 := (hb2.cell (p := ⟨tb, 0, none⟩) (by show tb < _; omega)).trans ht1
 have e5 : w2.frozen? ⟨tb, 0, none⟩ = false := by
   rw [hb2.frozen (p := ⟨tb, 0, none⟩) (by show tb < _; omega)]; exact hf1
 have el := as_elemV ⟨w.heap.size, 0, none⟩ ⟨tb, 0, none⟩ w2 e0
 have hz2 := hb2.size
 have st := as_set ⟨tb, 0, none⟩ ⟨w2.heap.size, 0, none⟩ n old (w2.alloc (.cells #[.int .i64 n] 171))
   (by rw [World.cell?_alloc_at _ _ _ _ (by simp)]; rfl)
   (by rw [World.cell?_alloc_lt _ _ ⟨tb, 0, none⟩ (by show tb < _; omega)]; exact e4)
   (by rw [World.frozen?_alloc_old _ _ ⟨tb, 0, none⟩ (Nat.ne_of_lt (by show tb < _; omega))]; exact e5)
 replace hb2 := Lib.hid hb2
 replace hz2 := Lib.hid hz2
 replace hWz := Lib.hid hWz
 clear hc0 hcv ht1 hf1
 go_wp2_with fail
 rw [rounds_succ]
 go_wp2_with fail
 go_ret
 refine ⟨rfl, World.cell?_setCell_same _ _ _ (by rw [World.cell?_alloc_lt _ _ ⟨tb, 0, none⟩ (by have := hz2.out; have := hWz.out; show tb < _; omega)]; exact e4), ?_⟩
 have := hz2.out
 have := hWz.out
 exact ((hB.trans (hb2.out.mono (by omega))).alloc (by omega) _).setCell (p := ⟨tb, 0, none⟩) (Nat.le_refl _) _
theorem errno_any (v : Value) (n : Int) (hv : (∃ k : Int, v = stopV k n) ∨ v = faultV n) (w : World) (hE : ErrT w) : Calls Tryz.prog 58 #[v] w fun e w' => e = .returned (.int .i64 n) /\ Below w.heap.size w w' := by
 obtain ⟨W, hW⟩ : ∃ W, w.alloc (.cells #[.int .i64 0] 171) = W := ⟨_, rfl⟩
 have hb : Below w.heap.size w W := by rw [<- hW]; exact X.later_alloc _ _
 have hx : W.heap[w.heap.size]? = some (.cells #[.int .i64 0] 171 (0, 0)) := by rw [<- hW]; exact World.alloc_heap_new w (.cells #[.int .i64 0] 171)
 have ka : Calls Tryz.prog 103 #[v, .iface 173 (.pointer (some ⟨w.heap.size, 0, none⟩))] W fun ev w' => ev = .returned (.bool true) /\ w'.cell? ⟨w.heap.size, 0, none⟩ = some (.int .i64 n) /\ Below w.heap.size W w' := by
   rcases hv with ⟨k, rfl⟩ | rfl
   . exact as_stop k n w.heap.size _ W (hE.later hb) (cell_of_row W w.heap.size 0 _ _ _ hx) (frozen_of_row hx 0)
   . exact as_fault n w.heap.size _ W (hE.later hb) (cell_of_row W w.heap.size 0 _ _ _ hx) (frozen_of_row hx 0)
 replace ka := Lib.hid ka
 replace hW := Lib.hid hW
 replace hb := Lib.hid hb
 clear hv hE hx
 go_enter Tryz.func58, Tryz.ntmps58
 go_wp2_with fail
 try rw [hW.out]
 refine ka.out.mono ?_
 rintro e w2 ⟨rfl, hc, hb2⟩
 have hB := Lib.hid (hb.out.trans hb2)
 replace hb2 := Lib.hid hb2
 go_wp2_with fail
 go_ret
 exact ⟨rfl, hB.out⟩
end Go.Proofs.YticjidkomfnihaaGreatDoor.Pa
