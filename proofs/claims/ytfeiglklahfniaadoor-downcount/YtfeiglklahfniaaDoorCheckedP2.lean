-- MADE BY PROGRAM (checked-in-parts.mjs) out of YtfeiglklahfniaaDoorChecked.lean: part 2 of 4: the items whose number leaves 2.
import Derived.Test.YtfeiglklahfniaaDoorProg
import Derived.KernelRfl
import Derived.Items
import Derived.PartsItems
import Derived.CheckFast
import Derived.HeadItems
import GoSem.Claims
import Derived.Shelf.ItemsParts
import Derived.Test.YtfeiglklahfniaaDoorCheckedPd
namespace Go.Proofs
mapM_items_part Tryd.el.told 2 4 : Tryd.bare.zipIdx.mapM (Elab.PartsItems.partAt Tryd.src) = .ok Tryd.parts
mapM_items_part Tryd.el.funcs 2 4 : Tryd.parts.mapM (Elab.one Tryd.progTables) = .ok Tryd.funcs.toList
forM_items_part Tryd.wf.types 2 4 : (List.range Tryd.src.types.size).forM (Check.typeAt Tryd.src) = .ok ()
forM_items_part Tryd.wf.names 2 4 : (List.range Tryd.src.decls.size).forM (Check.HeadItems.nameAt (Tryd.src.decls.toList.map (·.name))) = .ok ()
forM_items_part Tryd.wf.cutTypes 2 4 : Tryd.src.cutTypes.toList.forM (Check.cutType Tryd.src) = .ok ()
forM_items_part Tryd.wf.globals 2 4 : Tryd.src.globals.toList.forM (Check.global Tryd.src) = .ok ()
forM_items_part Tryd.wf.decls 2 4 : Tryd.src.decls.toList.forM (Check.decl Tryd.src) = .ok ()
forM_items_part Tryd.wf.entries 2 4 : (Tryd.src.inits.push Tryd.src.main).toList.forM (Check.entry Tryd.src) = .ok ()
forM_items_part Tryd.wt.methods 2 4 : (List.range Tryd.src.types.size).forM (Go.CheckTypes.methods Tryd.src) = .ok ()
forM_items_part Tryd.wt.decls 2 4 : Tryd.src.decls.toList.forM (Go.CheckTypes.decl Tryd.src) = .ok ()
forM_items_part Tryd.co.funcsF 2 4 : (List.range Tryd.prog.funcs.size).forM (CheckFast.funcAtF Tryd.prog) = .ok ()
forM_items_part Tryd.co.entries 2 4 : (Tryd.prog.inits.push Tryd.prog.main).toList.forM (CheckCode.entry Tryd.prog) = .ok ()
end Go.Proofs
